/- The walk of the program's Install. -/
import Derived.Test.YtpimdmjhnogelaaTurn9
import Derived.Test.YtpimdmjhnogelaaFit9
import Derived.Test.YtpimdmjhnogelaaAt9
import Derived.Deep.RegionHeld3
namespace Go.Proofs.Ytpimdmjhnogelaa.Char
open Go.RowKit Go.Lib Go.Maps

/-- the versions when changes have been laid -/
def layX (X : Int → List VeV) (t : Nat) (ys : List ChV) : Int → List VeV := fun id => X id ++ (ys.filter fun c => c.1 == id).map fun c => (t, c.2)
theorem layX_nil (X : Int → List VeV) (t : Nat) : layX X t [] = X := funext fun id => by simp [layX]
theorem layX_snoc (X : Int → List VeV) (t : Nat) (ys : List ChV) (y : ChV) : layX X t (ys ++ [y]) = setF (layX X t ys) y.1 (layX X t ys y.1 ++ [(t, y.2)]) := funext fun id => by
  unfold layX setF
  rw [List.filter_append]
  by_cases h : id = y.1
  · subst h; simp
  · have h2 : (y.1 == id) = false := beq_eq_false_iff_ne.2 (Ne.symm h)
    simp [h, h2]
theorem layX_new {X : Int → List VeV} {t : Nat} {ys : List ChV} {id : Int} (h : id ∉ ys.map (·.1)) : layX X t ys id = X id := by
  unfold layX
  rw [List.filter_eq_nil_iff.2 fun c hc => by
    have : c.1 ≠ id := fun e => h (e ▸ List.mem_map_of_mem hc)
    simpa using this]
  simp
theorem upX_snoc {xs : List VeV} {y : VeV} (h : upX xs) (hy : ∀ x, x ∈ xs → x.1 < y.1) : upX (xs ++ [y]) :=
  List.pairwise_append.2 ⟨h, List.pairwise_singleton _ _, fun a ha c hc => by rw [List.mem_singleton] at hc; subst hc; exact hy a ha⟩
/-- what Install tells -/
def instN (gv lt t : Nat) (cs : List (Int × Rc)) : Nat := if t ≤ lt then 43 else if badC gv [] cs then 2 else 0
/-- what is behind Install -/
def InsP (Z : Nat → Prop) (B : Nat) (w : World) (b gv t : Nat) (X : Int → List VeV) (cs : List ChV) (E : Nat) : Ending → World → Prop := fun e w' => e = .returned (.int .i64 (E : Int)) ∧
  (E ≠ 0 → Below w.heap.size w w') ∧ (E = 0 → Only B Z w w' ∧ ∃ Z' mb n D V ys, PSt Z' B w' b mb n D V (layX X t ys) gv t ∧ ys.map toCh = cs.map toCh ∧ (∀ g, Z g → Z' g) ∧ ∀ g, Z' g → Z g ∨ w.heap.size ≤ g)
theorem notin_dist {cs : List ChV} (h : (cs.map toCh).Pairwise fun a b => a.1 ≠ b.1) {k : Nat} (hk : k < cs.length) : cs[k].1 ∉ (cs.take k).map (·.1) := fun hm => by
  obtain ⟨c, hc, e⟩ := List.mem_map.1 hm
  obtain ⟨i, hi, rfl⟩ := List.getElem_of_mem hc
  rw [List.length_take] at hi
  have := List.pairwise_iff_getElem.1 h i k (by simp; omega) (by simp; omega) (by omega)
  rw [List.getElem_map, List.getElem_map] at this
  rw [List.getElem_take] at e
  exact this e
/-- the rounds of the laying -/
structure LayI (Z : Nat → Prop) (B : Nat) (w : World) (b mb gv lt t : Nat) (X : Int → List VeV) (cs : List ChV) (W : World) : Prop where
  st : ∃ Z' D V ys, PSt Z' B W b mb gv D V (layX X t ys) gv lt ∧ ys.map toCh = cs.map toCh ∧ (∀ g, Z g → Z' g) ∧ ∀ g, Z' g → Z g ∨ w.heap.size ≤ g
  only : Only B Z w W
set_option maxRecDepth 100000 in
set_option maxHeartbeats 8000000 in
theorem inst_any {Z : Nat → Prop} {B : Nat} {w : World} {b mb n : Nat} {D : DataW Value} {V : Int → Value} {X : Int → List VeV} {gv lt : Nat} (h : PSt Z B w b mb n D V X gv lt) (t : Nat) (cs : List ChV) (o : Option Addr) (j : Nat) (hB : B ≤ w.heap.size) {F : Nat → Prop} (hF : ∀ g, F g → ¬ Z g) (hc : ChsOn w F (.slice o cs.length j) cs) (hsm : ∀ x, x ∈ cs → RcSm x.2.1) (hcl : cs.length ≤ 2 ^ 44) (hg : gv ≤ 100000)
    (htm : ∀ id x, x ∈ X id → x.1 ≤ lt) (hlx : ∀ id, (X id).length ≤ 100000) :
    Calls Try.prog 32 #[.pointer (some ⟨b, 0, none⟩), .int .u64 (t : Int), .slice o cs.length j] w (InsP Z B w b gv t X cs (instN gv lt t (cs.map toCh))) := by
  obtain ⟨E, hE⟩ : ∃ E, instN gv lt t (cs.map toCh) = E := ⟨_, rfl⟩
  rw [hE]
  unfold instN at hE
  have hM := made_yes b w h.cells.1
  have c2 := h.cells.2.2.1
  have hFi := fit_any h cs o j hc hsm hcl hg
  have HT0 := Lib.hid h.tight
  clear h
  by_cases ht : t ≤ lt
  · have k1 : (t : Int) ≤ (lt : Int) := by omega
    rw [if_pos ht] at hE
    subst hE
    clear hc hsm htm hlx hFi HT0
    go_enter Try.func32, Try.ntmps32
    go_wp2_with (go_at_call 47; refine hM.mono ?_; rintro e w' ⟨rfl, hw'⟩; rw [hw']; clear hw')
    go_ret
    exact ⟨rfl, fun _ => Below.refl _ _, fun h => by cases h⟩
  · have k1 : ¬ (t : Int) ≤ (lt : Int) := by omega
    rw [if_neg ht] at hE
    cases hb : badC gv [] (cs.map toCh) with
    | true =>
      rw [hb, if_pos rfl] at hE
      rw [hb] at hFi
      subst hE
      clear hc hsm htm hlx HT0 hb
      go_enter Try.func32, Try.ntmps32
      go_wp2_with (first
        | (go_at_call 47; refine hM.mono ?_; rintro e w' ⟨rfl, hw'⟩; rw [hw']; clear hw')
        | (go_at_call 64; refine hFi.mono ?_; rintro e w1 ⟨rfl, hb1⟩))
      go_ret
      exact ⟨rfl, fun _ => hb1, fun h => by cases h⟩
    | false =>
      rw [hb, if_neg (by simp)] at hE
      rw [hb] at hFi
      subst hE
      obtain ⟨hok, hdist⟩ := bad_no hb
      have HOK := Lib.hid hok
      have HDI := Lib.hid hdist
      have HC := Lib.hid (fun wr (hb : Only B Z w wr) => (hc.move fun k hk hF' => ⟨hF', hb.2 k hk (hF k hF')⟩ : ChsOn wr F (.slice o cs.length j) cs))
      have HSM := Lib.hid hsm
      have HTM := Lib.hid htm
      have hbB := (HT0.out.zB b (HT0.out.zo b (.inl rfl)))
      clear hc hsm htm hb hok hdist
      go_enter Try.func32, Try.ntmps32
      go_wp2_with (first
        | (go_at_call 47; refine hM.mono ?_; rintro e w' ⟨rfl, hw'⟩; rw [hw']; clear hw')
        | (go_at_call 64; refine hFi.mono ?_; rintro e w1 ⟨rfl, hb1⟩))
      have hL0 : LayI Z B w b mb gv lt t X [] w1 := ⟨⟨Z, D, V, [], by rw [layX_nil]; exact HT0.out.below hb1, rfl, fun _ h => h, fun _ h => .inl h⟩, Only.of hb1 hB⟩
      have HL0 := Lib.hid hL0
      have hs1 := hb1.size
      clear hL0 hb1 hFi hM c2
      go_loopw [27] (fun i wr => ∃ k : Nat, i = .int .i64 (k : Int) ∧ k ≤ cs.length ∧ w.heap.size ≤ wr.heap.size ∧ Hid (LayI Z B w b mb gv lt t X (cs.take k) wr)) (fun v _ => cs.length - (RowKit.intOf v).toNat)
      case atStart => exact ⟨0, rfl, Nat.zero_le _, hs1, HL0⟩
      case round =>
        obtain ⟨k, rfl, hk, hwr, HK⟩ := hrel
        by_cases hlt : k < cs.length
        · obtain ⟨g, off, rfl, hg1, hat, hon⟩ := (HC.out _ HK.out.only).reads k hlt
          have hmem : toCh cs[k] ∈ cs.map toCh := List.mem_map_of_mem (List.getElem_mem hlt)
          have hsx := HSM.out _ (List.getElem_mem hlt)
          have htk := List.take_succ_eq_append_getElem hlt
          have hdk : cs[k].1 ∉ (cs.take k).map (·.1) := notin_dist HDI.out hlt
          obtain ⟨Y, hY⟩ : ∃ Y, cs[k] = Y := ⟨_, rfl⟩
          rw [hY] at hat hon hsx hmem htk hdk
          have HTK := Lib.hid htk
          clear hY htk
          obtain ⟨yi, r, va, vb⟩ := Y
          obtain ⟨ok, jk, oa, ja, e1, e2⟩ := hon.form
          dsimp only at e1 e2 hsx hdk
          subst e1 e2
          obtain ⟨a0, a1, a2, a3, a4, a5, a6, a7⟩ := hat.cells
          dsimp only at a0 a1 a2 a3 a4 a5 a6 a7
          obtain ⟨y1, y2, _⟩ := HOK.out _ hmem
          have y1 : 1 ≤ yi := y1
          have y2 : yi ≤ (gv : Int) := y2
          have hwf := wf_small y1 (by omega)
          obtain ⟨Zk, Dk, Vk, ys, p1, p2, p3, p4⟩ := HK.out.st
          have hyn : yi ∉ ys.map (·.1) := by
            have : ys.map (·.1) = (cs.take k).map (·.1) := by
              have := congrArg (List.map (·.1)) p2
              rw [List.map_map, List.map_map] at this
              exact this
            rw [this]
            exact hdk
          obtain ⟨o1, j1, hV⟩ := p1.form yi
          obtain ⟨W1, hW1⟩ : ∃ W1, W1 = wr.alloc (vB 73 (.int .i64 yi) (r, .slice ok r.ks.length jk, .slice oa r.ats.length ja)) := ⟨_, rfl⟩
          have hb1 : Below wr.heap.size wr W1 := by rw [hW1]; exact (Below.refl _ _).alloc (Nat.le_refl _) _
          have hs1 : W1.heap.size = wr.heap.size + 1 := by rw [hW1]; simp
          have hk1 : W1.heap[wr.heap.size]? = some (vB 73 (.int .i64 yi) (r, .slice ok r.ks.length jk, .slice oa r.ats.length ja)) := by rw [hW1]; exact World.alloc_heap_new wr _
          obtain ⟨⟨d0, d1, d2, d3, d4, d5, d6, d7⟩, _⟩ := vB_blk hk1
          dsimp only at d0 d1 d2 d3 d4 d5 d6 d7
          have hbl := p1.lt'
          have hP1 := p1.below hb1
          have c3 := hP1.cells.2.2.2.1
          have hlk := hP1.look hwf
          rw [hV, layX_new hyn] at hlk
          have HLK := Lib.hid (fun (W : World) (hbW : Below wr.heap.size wr W) => (p1.below hbW).look hwf)
          have HCO := fun w' (hb : Below W1.heap.size W1 w') => Lib.hid (copied_any (r, .slice ok r.ks.length jk, .slice oa r.ats.length ja) F w' ((hon.below hb1).below hb) hsx)
          have KS := Lib.hid (fun (W : World) (hb : ∀ q, q = b ∨ q = wr.heap.size → W.heap[q]? = W1.heap[q]?) => (⟨(World.cell?_of_block (w := W1) (a := ⟨b, 3, none⟩) (hb b (.inl rfl))).trans c3, (World.cell?_of_block (w := W1) (a := ⟨wr.heap.size, 0, none⟩) (hb _ (.inr rfl))).trans d0, (World.cell?_of_block (w := W1) (a := ⟨wr.heap.size, 1, none⟩) (hb _ (.inr rfl))).trans d1, (World.cell?_of_block (w := W1) (a := ⟨wr.heap.size, 2, none⟩) (hb _ (.inr rfl))).trans d2, (World.cell?_of_block (w := W1) (a := ⟨wr.heap.size, 3, none⟩) (hb _ (.inr rfl))).trans d3, (World.cell?_of_block (w := W1) (a := ⟨wr.heap.size, 4, none⟩) (hb _ (.inr rfl))).trans d4, (World.cell?_of_block (w := W1) (a := ⟨wr.heap.size, 5, none⟩) (hb _ (.inr rfl))).trans d5, (World.cell?_of_block (w := W1) (a := ⟨wr.heap.size, 6, none⟩) (hb _ (.inr rfl))).trans d6, (World.cell?_of_block (w := W1) (a := ⟨wr.heap.size, 7, none⟩) (hb _ (.inr rfl))).trans d7⟩ : W.cell? ⟨b, 3, none⟩ = some (.map (some mb)) ∧ W.cell? ⟨wr.heap.size, 0, none⟩ = some (.int .i64 yi) ∧ W.cell? ⟨wr.heap.size, 1, none⟩ = some (.int .i64 r.kd) ∧ W.cell? ⟨wr.heap.size, 2, none⟩ = some (.string (bs r.nm)) ∧ W.cell? ⟨wr.heap.size, 3, none⟩ = some (.string (bs r.tx)) ∧ W.cell? ⟨wr.heap.size, 4, none⟩ = some (.int .i64 r.pa) ∧ W.cell? ⟨wr.heap.size, 5, none⟩ = some (.slice ok r.ks.length jk) ∧ W.cell? ⟨wr.heap.size, 6, none⟩ = some (.slice oa r.ats.length ja) ∧ W.cell? ⟨wr.heap.size, 7, none⟩ = some (.bool r.gone)))
          have hrow := p1.row yi
          rw [layX_new hyn] at hV
          rw [hV, layX_new hyn] at hrow
          unfold rcV at HCO
          dsimp only at HCO
          have HW1 := Lib.hid hW1
          have HB1 := Lib.hid hb1
          have HP := Lib.hid p1
          have HROW := Lib.hid hrow
          have HV := Lib.hid hV
          have HP2 := Lib.hid p2
          have HP3 := Lib.hid p3
          have HP4 := Lib.hid p4
          have HYN := Lib.hid hyn
          have HSX := Lib.hid hsx
          have hlx1 := hlx yi
          have hneb := p1.ne_b yi
          unfold vB at HW1
          dsimp only at HW1
          clear hat hon hsx hmem hb1 hW1 hk1 p1 p2 p3 p4 hrow hyn hdk hP1
          go_wp2_with fail
          rw [← HW1.out]
          have hlkd : (Instr.lookup 88 (.map (some mb)) (.int .i64 yi) false).run Try.prog W1.drew = .ok (.slice o1 (X yi).length j1) W1.drew := by
            have := HLK.out W1.drew HB1.out.drew
            rwa [HV.out] at this
          have s1 := KS.out W1.drew (fun _ _ => rfl)
          go_region_held3 (fun w' => w'.cell? ⟨b, 3, none⟩ = some (.map (some mb)) ∧ w'.cell? ⟨wr.heap.size, 0, none⟩ = some (.int .i64 yi) ∧ w'.cell? ⟨wr.heap.size, 1, none⟩ = some (.int .i64 r.kd) ∧ w'.cell? ⟨wr.heap.size, 2, none⟩ = some (.string (bs r.nm)) ∧ w'.cell? ⟨wr.heap.size, 3, none⟩ = some (.string (bs r.tx)) ∧ w'.cell? ⟨wr.heap.size, 4, none⟩ = some (.int .i64 r.pa) ∧ w'.cell? ⟨wr.heap.size, 5, none⟩ = some (.slice ok r.ks.length jk) ∧ w'.cell? ⟨wr.heap.size, 6, none⟩ = some (.slice oa r.ats.length ja) ∧ w'.cell? ⟨wr.heap.size, 7, none⟩ = some (.bool r.gone))
            (first | exact s1 | exact s3 | exact s3a _ | exact s4 | exact s5)
            (first
              | (go_at_call 50
                 refine (HCO _ (by first | exact (Below.refl _ _).drew | exact Below.refl _ _)).out.mono ?_
                 rintro e w3 ⟨⟨r', va', vb'⟩, q1, rfl, q3, q4⟩
                 dsimp only at q1
                 subst q1
                 obtain ⟨ok2, jk2, oa2, ja2, e1, e2⟩ := q3.form
                 dsimp only at e1 e2
                 subst e1 e2
                 have hb3 : Below W1.heap.size W1 w3 := ((Below.refl _ _).drew).trans q4
                 have hb30 : Below wr.heap.size wr w3 := HB1.out.trans (hb3.mono (by omega))
                 have s3 := KS.out w3 (fun q hq => hb3.block q (by rcases hq with rfl | rfl <;> omega))
                 have s3a := fun o => KS.out (w3.alloc o) (fun q hq => (hb3.alloc (Nat.le_trans (Nat.le_refl _) hb3.size) o).block q (by rcases hq with rfl | rfl <;> omega))
                 have hlk3 : (Instr.lookup 88 (.map (some mb)) (.int .i64 yi) false).run Try.prog w3 = .ok (.slice o1 (X yi).length j1) w3 := by
                   have := HLK.out w3 hb30
                   rwa [HV.out] at this
                 have hlk3a : ∀ o, (Instr.lookup 88 (.map (some mb)) (.int .i64 yi) false).run Try.prog (w3.alloc o) = .ok (.slice o1 (X yi).length j1) (w3.alloc o) := fun o => by
                   have := HLK.out (w3.alloc o) (hb30.alloc hb30.size o)
                   rwa [HV.out] at this
                 have HB30 := Lib.hid hb30
                 have HQ3 := Lib.hid q3
                 have HB3 := Lib.hid hb3
                 clear q3 q4 hb3 hb30
                 unfold rcV
                 dsimp only)
              | (refine step_pushVe rfl (.tmp 43) (.tmp 49) rfl t (r', .slice ok2 r'.ks.length jk2, .slice oa2 r'.ats.length ja2) ⟨_, _, _, _, _, _, rfl, rfl⟩ w3.heap.size (World.alloc_heap_new w3 _) (OwnsVe.keep HROW.out (fun q hq => (HB30.out.alloc HB30.out.size _).block q (HROW.out.blk hq).2)) rfl rfl (by have := HB30.out.size; simp; omega) (by omega) ?_
                 intro g2 cap w4 hown4 hb4 hk4 hl4
                 have hs34 := HB30.out.size
                 have hrb : ∀ q, (Value.slice o1 (X yi).length j1).ownBlock = some q → q < wr.heap.size ∧ q ≠ b ∧ q ≠ mb := fun q hq => ⟨(HROW.out.blk hq).2, fun e => by rw [HV.out] at hneb; exact hneb (e ▸ hq), fun e => HP.out.ne_m yi (by rw [HV.out]; exact e ▸ hq)⟩
                 have hf4 : ∀ q, q < wr.heap.size → some q ≠ (Value.slice o1 (X yi).length j1).ownBlock → w4.heap[q]? = wr.heap[q]? := fun q q1 q2 => (hk4 q (by simp; omega) q2).trans ((HB30.out.alloc HB30.out.size _).block q q1)
                 have hw4 : ∀ q, q = b ∨ q = wr.heap.size → w4.heap[q]? = W1.heap[q]? := fun q hq => (hk4 q (by rcases hq with rfl | rfl <;> simp <;> omega) (fun e => by
                   have := hrb q e.symm
                   rcases hq with rfl | rfl
                   · exact this.2.1 rfl
                   · omega)).trans ((HB3.out.alloc HB3.out.size _).block q (by rcases hq with rfl | rfl <;> omega))
                 have s4 := KS.out w4 hw4
                 have hs44 : wr.heap.size < w4.heap.size := by have := hb4.size; simp at this; omega
                 have hmz := (HP.out.zB mb (HP.out.zo mb (.inr (.inl rfl)))).2
                 have hbm := HP.out.b_ne_m
                 obtain ⟨es, clock, u0, u1, u2, u3⟩ := HP.out.own
                 have own4 : w4.ownsMap Try.prog 3 heldE mb gv Dk := ⟨es, clock, (hf4 mb hmz (fun e => (hrb mb e.symm).2.2 rfl)).trans u0, u1, u2, u3⟩
                 obtain ⟨w5, hrun, how, hturn⟩ := own4.store law_int Try.underlying88 (by unfold maxLen; omega) (key_int hwf) (show heldE (.slice (some ⟨g2, 0, none⟩) ((X yi).length + 1) cap) = some (.held (.slice (some ⟨g2, 0, none⟩) ((X yi).length + 1) cap), []) from rfl)
                 have s5 := KS.out w5 (fun q hq => (hturn.grown.block q (by rcases hq with rfl | rfl <;> omega) (fun e => by
                   have e2 := Option.some.inj e
                   rcases hq with rfl | rfl
                   · exact hbm e2
                   · omega)).trans (hw4 q hq))
                 have HO4 := Lib.hid hown4
                 have HB4 := Lib.hid hb4
                 have HK4 := Lib.hid hk4
                 have HL4 := Lib.hid hl4
                 have HF4 := Lib.hid hf4
                 have HHOW := Lib.hid how
                 have HTU := Lib.hid hturn
                 clear hown4 hb4 hk4 hl4 hf4 u0 u1 u2 u3 own4 how hturn))
          all_goals
            have HNX : Hid (LayI Z B w b mb gv lt t X (cs.take (k + 1)) w5) := Lib.hid (by
              have hg5 := HTU.out.grown
              have hs5 := hg5.size
              have hz1 := HB30.out.size
              have hz2 := HB3.out.size
              have hz4 : w3.heap.size + 1 ≤ w4.heap.size := by have := HB4.out.size; simpa using this
              have hown := HO4.out
              have hblk : ∀ q, (Value.slice (some ⟨g2, 0, none⟩) ((X yi).length + 1) cap).ownBlock = some q → q = g2 := fun q hq => by simpa [Value.ownBlock] using hq.symm
              have hg2 : g2 < w4.heap.size := (hown.blk (g := g2) rfl).2
              have hl4 : (Value.slice o1 (X yi).length j1).ownBlock = some g2 ∨ w3.heap.size + 1 ≤ g2 := by have := HL4.out; simpa using this
              have ht := HP.out.turn (Z' := fun q => Zk q ∨ (wr.heap.size ≤ q ∧ q < w5.heap.size)) (w1 := w4) (w2 := w5) (id := yi) (v1 := .slice (some ⟨g2, 0, none⟩) ((X yi).length + 1) cap) (ys := X yi ++ [(t, r', .slice ok2 r'.ks.length jk2, .slice oa2 r'.ats.length ja2)]) hown
                (fun q q1 q2 => HF4.out q q1 (by rw [HV.out] at q2; exact q2)) (by omega)
                (fun q hq => by
                  rw [hblk q hq, HV.out]
                  rcases hl4 with h1 | h1
                  · exact .inl h1
                  · exact .inr ⟨by omega, .inr ⟨by omega, by omega⟩⟩)
                (fun q hq => .inl hq) (fun q hq => by
                  rcases hq with h1 | h1
                  · have := HP.out.zB q h1; exact ⟨this.1, by omega⟩
                  · exact ⟨by omega, h1.2⟩)
                (fun x hx => by
                  rw [List.mem_append, List.mem_singleton] at hx
                  rcases hx with hx | rfl
                  · exact .inl (by rw [layX_new HYN.out]; exact hx)
                  · refine .inr ⟨HQ3.out.move fun q hq hF => ?_, HSX.out⟩
                    have hF' : W1.heap.size ≤ q := hF
                    refine ⟨⟨by omega, .inr ⟨by omega, by omega⟩, fun e => ?_⟩, ?_⟩
                    · have := hblk q e
                      rcases hl4 with h1 | h1
                      · have := (hrb g2 h1).1; omega
                      · omega
                    · exact (HK4.out q (by simp; omega) (fun e => by have := (hrb q e.symm).1; omega)).trans (Below.heap_alloc w3 _ q hq))
                (upX_snoc (by have := HP.out.ups yi; rwa [layX_new HYN.out] at this) (fun x hx => by have := HTM.out yi x hx; show x.1 < t; omega)) (fun _ => ⟨y1, y2⟩) HHOW.out
                (fun q => by
                  rw [has_put HP.out.own.isMap]
                  have he : (X yi ++ [((t, r', Value.slice ok2 r'.ks.length jk2, Value.slice oa2 r'.ats.length ja2) : VeV)]).isEmpty = false := by cases X yi <;> rfl
                  rw [he]; rfl) (fun q => by rw [val_put HP.out.own.isMap]) (fun q q1 q2 => hg5.block q q1 (fun e => q2 (by cases e; rfl)))
              have hB5 : Below B wr w5 := (((HB30.out.mono (by omega)).alloc (by omega) _).trans HB4.out).grown hg5 (by omega) (fun q hq => by cases hq; exact (HP.out.zB mb (HP.out.zo mb (.inr (.inl rfl)))).1)
              have hst := ht.tight
              have hX : setF (layX X t ys) yi (X yi ++ [(t, r', Value.slice ok2 r'.ks.length jk2, Value.slice oa2 r'.ats.length ja2)]) = layX X t (ys ++ [((yi, r', Value.slice ok2 r'.ks.length jk2, Value.slice oa2 r'.ats.length ja2) : ChV)]) := by rw [layX_snoc, layX_new HYN.out]
              rw [hX] at hst
              refine ⟨⟨_, _, _, ys ++ [((yi, r', Value.slice ok2 r'.ks.length jk2, Value.slice oa2 r'.ats.length ja2) : ChV)], hst, ?_, fun q hq => .inl (HP3.out q hq), fun q hq => ?_⟩, HK.out.only.1.trans hB5, fun q q1 q2 => ?_⟩
              · rw [List.map_append, HP2.out, HTK.out, List.map_append]
                rfl
              · rcases hq with h1 | h1
                · exact HP4.out q h1
                · exact .inr (by omega)
              · have hqm : q ≠ mb := fun e => q2 (by rw [e]; exact HT0.out.zo mb (.inr (.inl rfl)))
                have hqr : some q ≠ (Value.slice o1 (X yi).length j1).ownBlock := fun e => by
                  rcases HP4.out q (HP.out.zo q (.inr (.inr ⟨yi, by rw [HV.out]; exact e.symm⟩))) with h1 | h1
                  · exact q2 h1
                  · omega
                exact ((hg5.block q (by omega) (fun e => hqm (by cases e; rfl))).trans (HF4.out q (by omega) hqr)).trans (HK.out.only.2 q q1 q2))
            have hs5 : w.heap.size ≤ w5.heap.size := HNX.out.only.1.size
            go_wp2_with fail
            go_roundw
            case rel => exact ⟨k + 1, by go_num, by omega, hs5, HNX⟩
            case measure => simp [RowKit.intOf]; omega
        · have hke : k = cs.length := by omega
          subst hke
          rw [List.take_length] at HK
          obtain ⟨Z', D', V', ys, h1, h2, h3, h4⟩ := HK.out.st
          have c2 := h1.cells.2.2.1
          have f2 := h1.cells.2.2.2.2 2
          have HST := Lib.hid h1
          clear h1
          go_wp2_with fail
          go_ret
          have hc := heap_set_at (i := 2) (u := .int .u64 (t : Int)) HST.out.cell
          refine ⟨rfl, fun h => absurd rfl h, fun _ => ⟨⟨HK.out.only.1.setCell (p := ⟨b, 2, none⟩) hbB.1 _, fun q q1 q2 => (heap_set_ne (fun e => q2 (by rw [e]; exact HT0.out.zo b (.inl rfl)))).trans (HK.out.only.2 q q1 q2)⟩, Z', mb, gv, D', V', ys, ?_, h2, h3, h4⟩⟩
          exact HST.out.turn_b (hc.trans (by simp)) (fun q hq => heap_set_ne hq) (by rw [World.size_setCell]; exact Nat.le_refl _) (Nat.le_refl _)
end Go.Proofs.Ytpimdmjhnogelaa.Char
