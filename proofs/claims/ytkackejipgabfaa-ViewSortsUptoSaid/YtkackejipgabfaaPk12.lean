/- GoW SortW DvM RefNew PairM -/
import Derived.Test.YtkackejipgabfaaPk11
import Derived.Deep.CutBlock
import Derived.Deep.DeepCutAuto
import Derived.Test.YtkackejipgabfaaPk07
import Derived.Test.YtkackejipgabfaaPk01
import Derived.Test.YtkackejipgabfaaPk08
/- The walk of the document's own Go. -/
namespace Go.Proofs.Ytkackejipgabfaa.Char
open Go.RowKit Go.Lib

theorem goL_grow (look : Int → Option Rc) (f : Nat) {ks : List Int} {a : Bool} {x y : List Gn} (h : goL (goF look f) ks a x = some y) : x.length ≤ y.length := by
  obtain ⟨ys, rfl⟩ := goL_ext (goF_ext look f) ks a x y h
  simp
section
variable {F : Nat → Prop} {B q b d t gv la : Nat} {va v2 : Value} {xs : List OnV} {cs : List ChV}
set_option maxRecDepth 100000 in
set_option maxHeartbeats 16000000 in
theorem goW_any (hsm : ∀ id r, lookV (xs.map toOn) t (cs.map toCh) id = some r → RcSm r) (hxl : xs.length ≤ 100000000) (hcl : cs.length ≤ 10000000) : ∀ (f : Nat) (id : Int) (a : Bool) (acc acc' : List Gn) (u v : Value) (w : World),
    goF (lookV (xs.map toOn) t (cs.map toCh)) f id a acc = some acc' → acc'.length ≤ 100000000 → VWq F B q w b d t va v2 xs cs gv la → GoW w q u v (asG acc) (bsG acc) →
    Calls Try.prog 47 #[.pointer (some ⟨b, 0, none⟩), .int .i64 id, .bool a, .pointer (some ⟨q, 0, none⟩)] w (GoP q w u v acc') := by
  intro f
  induction f with
  | zero => intro id a acc acc' u v w hgo; rw [goF] at hgo; cases hgo
  | succ f ih =>
    intro id a acc acc' u v w hgo hlen hV hG
    have hget := getW_any hV.st hV.vw hxl hcl id
    obtain ⟨g0, g1, gf, hqw⟩ := hG.cells
    rw [goF] at hgo
    have hfq : ∀ g, F g → g < q := fun g hg => hV.lo g (.inr (.inr (.inr hg)))
    have hsmi := fun r h => hsm id r h
    obtain ⟨R, hR⟩ : ∃ R, lookV (xs.map toOn) t (cs.map toCh) id = R := ⟨_, rfl⟩
    rw [hR] at hget hgo hsmi
    have HGET := Lib.hid hget
    have HV := Lib.hid hV
    have HG := Lib.hid hG
    have HGO := Lib.hid hgo
    have HSM := Lib.hid hsmi
    have HFQ := Lib.hid hfq
    clear hget hV hG hgo hsmi hfq hR hsm gf g0 g1
    go_enter Try.func47, Try.ntmps47
    go_upto_region 1 with (first
      | (go_at_call 68
         refine HGET.out.mono ?_
         rintro e w5 ⟨⟨r, va', vb'⟩, rfl, q1, q2, q3⟩
         dsimp only at q1
         obtain ⟨ok, jk, oa, ja, e1, e2⟩ := q2.form
         dsimp only at e1 e2
         subst e1 e2
         unfold rcV
         dsimp only
         have Q1 := Lib.hid q1
         have Q2 := Lib.hid q2
         have Q3 := Lib.hid q3
         clear q1 q2 q3))
    obtain ⟨W6, hW6⟩ : ∃ W6, W6 = w5.alloc (.cells #[.int .i64 r.kd, .string (bs r.nm), .string (bs r.tx), .int .i64 r.pa, .slice ok r.ks.length jk, .slice oa r.ats.length ja, .bool r.gone] 34) := ⟨_, rfl⟩
    rw [← hW6]
    have hs5 := Q3.out.size
    have hb6 : Below w5.heap.size w5 W6 := by rw [hW6]; exact (Below.refl _ _).alloc (Nat.le_refl _) _
    have hk6 : W6.heap[w5.heap.size]? = some (rcB (r, .slice ok r.ks.length jk, .slice oa r.ats.length ja)) := by rw [hW6]; exact World.alloc_heap_new w5 _
    have hb06 : Below w.heap.size w W6 := Q3.out.trans (hb6.mono hs5)
    have hG6 := HG.out.below hb06
    have hgi : GI q w u v w5.heap.size (r, .slice ok r.ks.length jk, .slice oa r.ats.length ja) (asG acc) (bsG acc) u v W6 :=
      ⟨hG6, Only.of hb06 (Nat.le_of_lt hqw), hk6, fun g hg => .inl hg, hs5, fun g hg => by
        rcases hg with hg | hg
        · have := HG.out.ou.blk hg; omega
        · have := HG.out.ov.blk hg; omega, hqw⟩
    obtain ⟨g0, g1, gf, hqw6⟩ := hG6.cells
    have HGI := Lib.hid hgi
    obtain ⟨xb, hxb⟩ : ∃ xb, w5.heap.size = xb := ⟨_, rfl⟩
    rw [hxb] at HGI ⊢
    have HX5 := Lib.hid hxb
    cases R with
    | none =>
      clear hgi hG6 hk6 hb6 hW6 gf
      have hgo := HGO.out
      dsimp only at hgo
      cases hgo
      go_wp2_with fail
      go_end0
      exact ⟨⟨_, rfl⟩, u, v, HGI.out.go, HGI.out.only, fun g hg => .inl hg⟩
    | some r0 =>
      have e0 := Q1.out
      dsimp only [Option.getD] at e0
      subst e0
      have hgo := HGO.out
      dsimp only at hgo
      have hsr := HSM.out r rfl
      clear HGO HSM Q1 HGET
      cases hh : hasG acc id with
      | true =>
        have HHAS := Lib.hid (hasW_any (F := fun _ => True) (hG6.ou.on fun _ _ => trivial) (by unfold asG; rw [List.length_map]; rw [if_pos hh] at hgo; cases hgo; omega) id)
        rw [hasG_as, hh] at HHAS
        rw [if_pos hh] at hgo
        cases hgo
        clear hgi hG6 hk6 hb6 hW6 gf hh
        go_wp2_with (first
          | (go_at_call 35
             refine HHAS.out.mono ?_
             rintro e w7 ⟨rfl, hw⟩
             have hw := hw.symm
             subst hw))
        go_end0
        exact ⟨⟨_, rfl⟩, u, v, HGI.out.go, HGI.out.only, fun g hg => .inl hg⟩
      | false =>
        rw [if_neg (by rw [hh]; decide)] at hgo
        obtain ⟨accA, hgA⟩ : ∃ accA, goL (goF (lookV (xs.map toOn) t (cs.map toCh)) f) r.ats true (acc ++ [(id, a, r)]) = some accA := by
          cases hc : goL (goF (lookV (xs.map toOn) t (cs.map toCh)) f) r.ats true (acc ++ [(id, a, r)]) with
          | none => rw [hc] at hgo; cases hgo
          | some z => exact ⟨z, rfl⟩
        rw [hgA] at hgo
        dsimp only at hgo
        have hl1 := goL_grow _ _ hgA
        have hl2 := goL_grow _ _ hgo
        rw [List.length_append, List.length_singleton] at hl1
        have hal : (asG acc).length ≤ 100000000 := by unfold asG; rw [List.length_map]; omega
        have hbl : (bsG acc).length ≤ 100000000 := by have := bsG_len acc; omega
        have HHAS := Lib.hid (hasW_any (F := fun _ => True) (hG6.ou.on fun _ _ => trivial) (by omega) id)
        rw [hasG_as, hh] at HHAS
        have f0 := gf 0
        have HGA := Lib.hid hgA
        have HGB := Lib.hid hgo
        clear hgi hG6 hk6 hb6 hW6 gf hh hgA hgo
        go_upto_if 38 with (first
          | (go_at_call 35
             refine HHAS.out.mono ?_
             rintro e w7 ⟨rfl, hw⟩
             have hw := hw.symm
             subst hw)
          | (at_builtin
             refine wpList_pushInt rfl (.tmp 32) (.tmp 34) rfl id HGI.out.go.ou rfl (by simp [Act.eval]) (by omega) hal ?_
             intro u7 w7 q1 q2 q3 q4
             have c7 := (World.cell?_of_block (w := W6) (w' := w7) (a := ⟨q, 0, none⟩) (q3 q hqw6 (fun e => by have := (HGI.out.go.ou.blk e.symm).1; omega))).trans g0
             have f7 := (World.frozen?_of_block (w := W6) (w' := w7) (a := ⟨q, 0, none⟩) (q3 q hqw6 (fun e => by have := (HGI.out.go.ou.blk e.symm).1; omega))).trans f0
             have P7 := Lib.hid (HGI.out.pushU q1 q2 q3 q4)
             obtain ⟨o7, j7, rfl⟩ := q1.form
             rw [List.length_append, List.length_singleton] at P7
             clear q1 q2 q3 q4)
          | go_in)
        obtain ⟨W8, hW8⟩ : ∃ W8, W8 = w7.setCell ⟨q, 0, none⟩ (.slice o7 ((asG acc).length + 1) j7) := ⟨_, rfl⟩
        rw [← hW8]
        rw [← hW8] at P7
        clear c7 f7 hW8 f0 g0 g1
        go_cut [] (fun wx => ∃ uu vv, Hid (GI q w u v xb (r, .slice ok r.ks.length jk, .slice oa r.ats.length ja) (asG (acc ++ [(id, a, r)])) (bsG (acc ++ [(id, a, r)])) uu vv wx))
        case first =>
          cases a with
          | false =>
            go_wp2_with fail
            go_meet
            exact ⟨_, _, Lib.hid (by rw [asG_snoc, bsG_no]; exact P7.out)⟩
          | true =>
            obtain ⟨_, g1, gf, hq8⟩ := P7.out.go.cells
            have f1 := gf 1
            clear gf
            go_wp2_with (first
              | (at_builtin
                 refine wpList_pushInt rfl (.tmp 43) (.tmp 45) rfl id P7.out.go.ov rfl (by simp [Act.eval]) (by omega) hbl ?_
                 intro u9 w9 q1 q2 q3 q4
                 have c9 := (World.cell?_of_block (w := W8) (w' := w9) (a := ⟨q, 1, none⟩) (q3 q hq8 (fun e => by have := (P7.out.go.ov.blk e.symm).1; omega))).trans g1
                 have f9 := (World.frozen?_of_block (w := W8) (w' := w9) (a := ⟨q, 1, none⟩) (q3 q hq8 (fun e => by have := (P7.out.go.ov.blk e.symm).1; omega))).trans f1
                 have P9 := Lib.hid (P7.out.pushV q1 q2 q3 q4)
                 obtain ⟨o9, j9, rfl⟩ := q1.form
                 rw [List.length_append, List.length_singleton] at P9
                 clear q1 q2 q3 q4)
              | go_in)
            go_meet
            exact ⟨_, _, Lib.hid (by rw [asG_snoc, bsG_yes]; exact P9.out)⟩
        case rest =>
        clear P7
        obtain ⟨uu, vv, P8⟩ := hcut
        go_wp2_with fail
        go_loopw [10] (fun vx wr => ∃ k : Nat, ∃ acck uk vk, vx = .int .i64 (k : Int) ∧ k ≤ r.ats.length ∧ Hid (goL (goF (lookV (xs.map toOn) t (cs.map toCh)) f) (r.ats.drop k) true acck = some accA ∧ GI q w u v xb (r, .slice ok r.ks.length jk, .slice oa r.ats.length ja) (asG acck) (bsG acck) uk vk wr)) (fun v _ => r.ats.length - (RowKit.intOf v).toNat)
        case atStart => exact ⟨0, _, uu, vv, rfl, Nat.zero_le _, Lib.hid ⟨by rw [List.drop_zero]; exact HGA.out, P8.out⟩⟩
        case round =>
          skip
          obtain ⟨k, acck, uk, vk, rfl, hk, HK⟩ := hrel
          obtain ⟨⟨_, _, _, _, x4, x5, _⟩, _⟩ := rc_blk HK.out.2.xo
          dsimp only at x4 x5
          have hsr2 : r.ats.length ≤ 2 ^ 44 := hsr.2
          by_cases hlt : k < r.ats.length
          · have hdr := HK.out.1
            rw [List.drop_eq_getElem_cons hlt, goL] at hdr
            have hon := Q2.out.2.move (F' := F) (w' := wr) (fun g hg hF => ⟨hF, (HK.out.2.only.1.block g (HFQ.out g hF)).trans (Q3.out.block g (Nat.lt_trans (HFQ.out g hF) hqw)).symm⟩)
            obtain ⟨o1, i1, j1, e1, e2, e3⟩ := hon
            simp only [Value.slice.injEq] at e1
            obtain ⟨rfl, rfl, rfl⟩ := e1
            rcases e3 with h0 | ⟨g, off, rfl, hgF, hc⟩
            · dsimp only at h0; rw [h0] at hlt; cases hlt
            have c0 := hc k hlt
            rw [show r.ats.getD k 0 = r.ats[k] by simp [hlt]] at c0
            obtain ⟨z, hz⟩ : ∃ z, r.ats[k] = z := ⟨_, rfl⟩
            rw [hz] at c0 hdr
            obtain ⟨acc1, hgk⟩ : ∃ acc1, goF (lookV (xs.map toOn) t (cs.map toCh)) f z true acck = some acc1 := by
              cases hc : goF (lookV (xs.map toOn) t (cs.map toCh)) f z true acck with
              | none => rw [hc] at hdr; cases hdr
              | some y => exact ⟨y, rfl⟩
            rw [hgk] at hdr
            dsimp only at hdr
            have hl3 := goL_grow _ _ hdr
            have HIH := Lib.hid (ih z true acck acc1 uk vk wr hgk (by omega) (HV.out.below HK.out.2.only.1) HK.out.2.go)
            have HDR := Lib.hid hdr
            have HLT := Lib.hid hlt
            have hz0 : (0 : Int) ≤ (k : Int) := by omega
            have hz1 : (k : Int) < (r.ats.length : Int) := by omega
            clear hc e2 hdr hgk hz hl3
            go_wp2_with (first
              | (go_at_call 47
                 refine HIH.out.mono ?_
                 rintro e w9 ⟨⟨z9, rfl⟩, u9, v9, p1, p2, p3⟩
                 have P9 := Lib.hid (HK.out.2.after p2 p1 p3)
                 clear p1 p2 p3))
            refine ⟨⟨k + 1, acc1, u9, v9, by go_num, HLT.out, Lib.hid ⟨HDR.out, P9.out⟩⟩, by have := HLT.out; simp [RowKit.intOf]; omega⟩
          · have ek : k = r.ats.length := by omega
            subst ek
            have hdr := HK.out.1
            rw [List.drop_length, goL] at hdr
            cases hdr
            go_wp2_with fail
            go_loopw [11] (fun vx wr => ∃ k : Nat, ∃ acck uk vk, vx = .int .i64 (k : Int) ∧ k ≤ r.ks.length ∧ Hid (goL (goF (lookV (xs.map toOn) t (cs.map toCh)) f) (r.ks.drop k) a acck = some acc' ∧ GI q w u v xb (r, .slice ok r.ks.length jk, .slice oa r.ats.length ja) (asG acck) (bsG acck) uk vk wr)) (fun v _ => r.ks.length - (RowKit.intOf v).toNat)
            case atStart => exact ⟨0, _, uk, vk, rfl, Nat.zero_le _, Lib.hid ⟨by rw [List.drop_zero]; exact HGB.out, HK.out.2⟩⟩
            case round =>
              clear HK x4 x5
              obtain ⟨k, acck, uk, vk, rfl, hk, HK⟩ := hrel
              obtain ⟨⟨_, _, _, _, x4, x5, _⟩, _⟩ := rc_blk HK.out.2.xo
              dsimp only at x4 x5
              have hsr2 : r.ks.length ≤ 2 ^ 44 := hsr.1
              by_cases hlt : k < r.ks.length
              · have hdr := HK.out.1
                rw [List.drop_eq_getElem_cons hlt, goL] at hdr
                have hon := Q2.out.1.move (F' := F) (w' := wr) (fun g hg hF => ⟨hF, (HK.out.2.only.1.block g (HFQ.out g hF)).trans (Q3.out.block g (Nat.lt_trans (HFQ.out g hF) hqw)).symm⟩)
                obtain ⟨o1, i1, j1, e1, e2, e3⟩ := hon
                simp only [Value.slice.injEq] at e1
                obtain ⟨rfl, rfl, rfl⟩ := e1
                rcases e3 with h0 | ⟨g, off, rfl, hgF, hc⟩
                · dsimp only at h0; rw [h0] at hlt; cases hlt
                have c0 := hc k hlt
                rw [show r.ks.getD k 0 = r.ks[k] by simp [hlt]] at c0
                obtain ⟨z, hz⟩ : ∃ z, r.ks[k] = z := ⟨_, rfl⟩
                rw [hz] at c0 hdr
                obtain ⟨acc1, hgk⟩ : ∃ acc1, goF (lookV (xs.map toOn) t (cs.map toCh)) f z a acck = some acc1 := by
                  cases hc : goF (lookV (xs.map toOn) t (cs.map toCh)) f z a acck with
                  | none => rw [hc] at hdr; cases hdr
                  | some y => exact ⟨y, rfl⟩
                rw [hgk] at hdr
                dsimp only at hdr
                have hl3 := goL_grow _ _ hdr
                have HIH := Lib.hid (ih z a acck acc1 uk vk wr hgk (by omega) (HV.out.below HK.out.2.only.1) HK.out.2.go)
                have HDR := Lib.hid hdr
                have HLT := Lib.hid hlt
                have hz0 : (0 : Int) ≤ (k : Int) := by omega
                have hz1 : (k : Int) < (r.ks.length : Int) := by omega
                clear hc e2 hdr hgk hz hl3
                go_wp2_with (first
                  | (go_at_call 47
                     refine HIH.out.mono ?_
                     rintro e w9 ⟨⟨z9, rfl⟩, u9, v9, p1, p2, p3⟩
                     have P9 := Lib.hid (HK.out.2.after p2 p1 p3)
                     clear p1 p2 p3))
                refine ⟨⟨k + 1, acc1, u9, v9, by go_num, HLT.out, Lib.hid ⟨HDR.out, P9.out⟩⟩, by have := HLT.out; simp [RowKit.intOf]; omega⟩
              · have ek : k = r.ks.length := by omega
                subst ek
                have hdr := HK.out.1
                rw [List.drop_length, goL] at hdr
                cases hdr
                go_wp2_with fail
                go_end0
                exact ⟨⟨_, rfl⟩, uk, vk, HK.out.2.go, HK.out.2.only, fun g hg => (HK.out.2.own g hg).elim .inl (fun e => .inr (by have := HK.out.2.xlt; omega))⟩
end
end Go.Proofs.Ytkackejipgabfaa.Char

/- The walk of the document's own All and Sort. -/
namespace Go.Proofs.Ytkackejipgabfaa.Char
open Go.RowKit Go.Lib

section
variable {F : Nat → Prop} {B b d t gv la : Nat} {v v2 : Value} {xs : List OnV} {cs : List ChV}
set_option maxRecDepth 100000 in
set_option maxHeartbeats 4000000 in
theorem allW_any {w : World} (hs : RefG F B w d v xs gv la) (h : RW F B w b d t v2 cs) (hsm : ∀ id r, lookV (xs.map toOn) t (cs.map toCh) id = some r → RcSm r) (hxl : xs.length ≤ 10000000) (hcl : cs.length ≤ 10000000) :
    Calls Try.prog 16 #[.pointer (some ⟨b, 0, none⟩)] w fun e w' => ∃ u, e = .returned u ∧ OwnsInt w.heap.size w' u (asG (goV (xs.map toOn) t (cs.map toCh) 1)) ∧ Below w.heap.size w w' := by
  obtain ⟨W1, hW1⟩ : ∃ W1, W1 = w.alloc (.cells #[.slice none 0 0, .slice none 0 0] 102) := ⟨_, rfl⟩
  have hb1 : Below w.heap.size w W1 := by rw [hW1]; exact (Below.refl _ _).alloc (Nat.le_refl _) _
  have hk1 : W1.heap[w.heap.size]? = some (.cells #[.slice none 0 0, .slice none 0 0] 102 (0, 0)) := by rw [hW1]; exact World.alloc_heap_new w _
  have hV : VWq F B w.heap.size W1 b d t v v2 xs cs gv la := VWq.below ⟨hs, h, fun g hg => by
    rcases hg with hg | hg | hg | hg
    · exact (hs.own hg).2
    · rw [hg]; exact h.ltb
    · exact (h.row.blk hg).2
    · exact h.fb g hg⟩ hb1
  have hgl := goV_len (xs.map toOn) t (cs.map toCh) 1
  rw [List.length_map, List.length_map] at hgl
  have hG := goW_any hsm (by omega) hcl _ 1 false [] _ (.slice none 0 0) (.slice none 0 0) W1 (goV_eq (xs.map toOn) t (cs.map toCh) 1) (by omega) hV ⟨hk1, OwnsInt.nil _ _, OwnsInt.nil _ _, fun g hg => by cases hg⟩
  have HG := Lib.hid hG
  have HW1 := Lib.hid hW1
  have HB1 := Lib.hid hb1
  clear hs h hsm hV hG hW1 hb1 hk1 hgl
  go_enter Try.func16, Try.ntmps16
  go_upto_region 2 with fail
  rw [← HW1.out]
  go_wp2_with (first
    | (go_at_call 47
       refine HG.out.mono ?_
       rintro e w2 ⟨⟨z, rfl⟩, u', v', p1, p2, p3⟩
       obtain ⟨g0, _, _, hq⟩ := p1.cells
       have P1 := Lib.hid p1
       have P2 := Lib.hid p2
       clear p1 p2 p3))
  go_ret
  exact ⟨u', rfl, P1.out.ou.weak (Nat.le_succ _), HB1.out.trans P2.out.1⟩

set_option maxRecDepth 100000 in
set_option maxHeartbeats 2000000 in
theorem sortW_any {w : World} (hs : RefG F B w d v xs gv la) (h : RW F B w b d t v2 cs) (hsm : ∀ id r, lookV (xs.map toOn) t (cs.map toCh) id = some r → RcSm r) (hxl : xs.length ≤ 10000000) (hcl : cs.length ≤ 10000000)
    {K : Nat → Prop} (l : Value) (zs : List Int) (hz : IntsOn w K l zs) (hzl : zs.length ≤ 1000000000) :
    Calls Try.prog 18 #[.pointer (some ⟨b, 0, none⟩), l] w fun e w' => ∃ u, e = .returned u ∧ OwnsInt w.heap.size w' u ((asG (goV (xs.map toOn) t (cs.map toCh) 1)).filter fun z => zs.any fun y => y == z) ∧ Below w.heap.size w w' := by
  have HALL := Lib.hid (allW_any hs h hsm hxl hcl)
  have hgl := goV_len (xs.map toOn) t (cs.map toCh) 1
  rw [List.length_map, List.length_map] at hgl
  have hal : (asG (goV (xs.map toOn) t (cs.map toCh) 1)).length ≤ 100000000 := by unfold asG; rw [List.length_map]; omega
  obtain ⟨A, hA⟩ : ∃ A, asG (goV (xs.map toOn) t (cs.map toCh) 1) = A := ⟨_, rfl⟩
  rw [hA] at HALL hal ⊢
  have HZ := Lib.hid hz
  obtain ⟨oz, iz, jz, rfl, rfl, _⟩ := hz
  clear hs h hsm hgl hA
  go_enter Try.func18, Try.ntmps18
  go_wp2_with (first
    | (go_at_call 16
       refine HALL.out.mono ?_
       rintro e W1 ⟨u, rfl, p1, p2⟩
       obtain ⟨ou, ju, rfl⟩ := p1.form
       have P1 := Lib.hid p1
       have P2 := Lib.hid p2
       clear p1 p2))
  have hsz := P2.out.size
  go_loopw [6, 7] (fun v6 v7 wr => ∃ k : Nat, v7 = .int .i64 (k : Int) ∧ k ≤ A.length ∧ (∃ p q r, v6 = .slice p q r) ∧ Hid (OwnsInt W1.heap.size wr v6 ((A.take k).filter fun z => zs.any fun y => y == z) ∧ Below W1.heap.size W1 wr)) (fun _ v _ => A.length - (RowKit.intOf v).toNat)
  case atStart => exact ⟨0, rfl, Nat.zero_le _, ⟨_, _, _, rfl⟩, Lib.hid ⟨OwnsInt.nil _ _, Below.refl _ _⟩⟩
  case round =>
    obtain ⟨k, rfl, hk, ⟨p, q, s, rfl⟩, HK⟩ := hrel
    have hwr := HK.out.2.size
    by_cases hlt : k < A.length
    · obtain ⟨o1, i1, j1, e1, e2, e3⟩ := (P1.out.below HK.out.2).on (F := fun _ => True) (fun _ _ => trivial)
      simp only [Value.slice.injEq] at e1
      obtain ⟨rfl, rfl, rfl⟩ := e1
      rcases e3 with h0 | ⟨g, off, rfl, hgF, hc⟩
      · rw [h0] at hlt; cases hlt
      have c0 := hc k hlt
      rw [show A.getD k 0 = A[k] by simp [hlt]] at c0
      have htk := List.take_succ_eq_append_getElem hlt
      obtain ⟨z, hz⟩ : ∃ z, A[k] = z := ⟨_, rfl⟩
      rw [hz] at c0 htk
      have hhas := hasW_any (F := K) (w := wr) (HZ.out.move fun g hg hF => ⟨hF, (P2.out.trans (HK.out.2.mono hsz)).block g hg⟩) hzl z
      have hz0 : (0 : Int) ≤ (k : Int) := by omega
      have hz1 : (k : Int) < (A.length : Int) := by omega
      have hfl := List.length_filter_le (fun z => zs.any fun y => y == z) (A.take k)
      rw [List.length_take] at hfl
      have HLT := Lib.hid hlt
      have HTK := Lib.hid htk
      clear hc e2 hz htk
      cases hh : zs.any fun y => y == z with
      | true =>
        rw [hh] at hhas
        have HHAS := Lib.hid hhas
        have HH := Lib.hid hh
        clear hhas hh
        go_wp2_with (first
          | (go_at_call 35
             refine HHAS.out.mono ?_
             rintro e w7 ⟨rfl, hw⟩
             have hw := hw.symm
             subst hw)
          | (at_builtin
             refine wpList_pushInt rfl (.tmp 22) (.tmp 27) rfl z HK.out.1 rfl (by simp [Act.eval]) hwr (by omega) ?_
             intro u7 w7 q1 q2 q3 q4
             obtain ⟨o7, j7, rfl⟩ := q1.form
             rw [List.length_append, List.length_singleton] at q1
             have Q1 := Lib.hid q1
             have Q2 := Lib.hid q2
             clear q1 q2 q3 q4)
          | go_in)
        exact ⟨⟨k + 1, by go_num, HLT.out, ⟨_, _, _, rfl⟩, Lib.hid ⟨by rw [HTK.out, List.filter_append, List.filter_cons, if_pos HH.out, List.filter_nil]; exact Q1.out, HK.out.2.trans Q2.out⟩⟩, by have := HLT.out; simp [RowKit.intOf]; omega⟩
      | false =>
        rw [hh] at hhas
        have HHAS := Lib.hid hhas
        have HH := Lib.hid hh
        clear hhas hh
        go_wp2_with (first
          | (go_at_call 35
             refine HHAS.out.mono ?_
             rintro e w7 ⟨rfl, hw⟩
             have hw := hw.symm
             subst hw))
        exact ⟨⟨k + 1, by go_num, HLT.out, ⟨_, _, _, rfl⟩, Lib.hid ⟨by rw [HTK.out, List.filter_append, List.filter_cons, if_neg (by rw [HH.out]; decide), List.filter_nil, List.append_nil]; exact HK.out.1, HK.out.2⟩⟩, by have := HLT.out; simp [RowKit.intOf]; omega⟩
    · have ek : k = A.length := by omega
      subst ek
      rw [List.take_length] at HK
      go_wp2_with fail
      go_ret
      exact ⟨_, rfl, OwnsInt.weak HK.out.1 hsz, P2.out.trans (HK.out.2.mono hsz)⟩
end
end Go.Proofs.Ytkackejipgabfaa.Char

/- The document's view in memory, what is asked of it: Get and All. -/
namespace Go.Proofs.Ytkackejipgabfaa.Char
open Go.RowKit Go.Lib

/-- the document's view at b: its store tells L, at the time t, its own changes are own -/
def DV (w : World) (b : Nat) (L : List On) (t : Nat) (own : Own) : Prop := ∃ (F : Nat → Prop) (B d gv la : Nat) (v v2 : Value) (xs : List OnV) (cs : List ChV),
  RefG F B w d v xs gv la ∧ RW F B w b d t v2 cs ∧ xs.map toOn = L ∧ cs.map toCh = own ∧ (∀ id r, lookV L t own id = some r → RcSm r) ∧ L.length ≤ 5000000 ∧ own.length ≤ 5000000
section
variable {w : World} {b t : Nat} {L : List On} {own : Own}
theorem DV.below (h : DV w b L t own) {w' : World} (hb : Below w.heap.size w w') : DV w' b L t own := by
  obtain ⟨F, B, d, gv, la, v, v2, xs, cs, h1, h2, h3⟩ := h
  exact ⟨F, B, d, gv, la, v, v2, xs, cs, h1.below hb, h2.below hb, h3⟩
theorem DV.one (h : DV w b L t own) (ob : Obj) : DV (w.alloc ob) b L t own := h.below ((Below.refl _ w).alloc (Nat.le_refl _) ob)
/-- what the document's Get hands back -/
def DGet (w : World) (R : Option Rc) : Ending → World → Prop := fun e w' => ∃ x : RcV, e = .returned (.tuple #[rcV x, .bool R.isSome]) ∧ x.1 = R.getD rc0 ∧ RcOn w' (fun g => g < w.heap.size) x ∧ Below w.heap.size w w'
theorem DV.get (h : DV w b L t own) (id : Int) : Calls Try.prog 68 #[.pointer (some ⟨b, 0, none⟩), .int .i64 id] w (DGet w (lookV L t own id)) := by
  obtain ⟨F, B, d, gv, la, v, v2, xs, cs, h1, h2, rfl, rfl, h5, h6, h7⟩ := h
  rw [List.length_map] at h6 h7
  refine (getW_any h1 h2 (by omega) (by omega) id).mono ?_
  rintro e w' ⟨x, q1, q2, q3, q4⟩
  exact ⟨x, q1, q2, q3.move fun g hg hF => ⟨h1.fb g hF, rfl⟩, q4⟩
theorem DV.all (h : DV w b L t own) : Calls Try.prog 16 #[.pointer (some ⟨b, 0, none⟩)] w fun e w' => ∃ u, e = .returned u ∧ OwnsInt w.heap.size w' u (asG (goV L t own 1)) ∧ Below w.heap.size w w' := by
  obtain ⟨F, B, d, gv, la, v, v2, xs, cs, h1, h2, rfl, rfl, h5, h6, h7⟩ := h
  rw [List.length_map] at h6 h7
  exact allW_any h1 h2 h5 (by omega) (by omega)
theorem WS.dv {Z Z1 : Nat → Prop} {B d : Nat} {S : Sto} (h : WS Z Z1 B w b d t S own) (hs : ∀ id r, lookV S.L t own id = some r → RcSm r) (h1 : S.L.length ≤ 5000000) (h2 : own.length ≤ 5000000) : DV w b S.L t own := by
  obtain ⟨F, v, v2, xs, cs, p1, p2, p3, p4, p5, p6, p7, p8⟩ := h
  exact ⟨F, B, d, _, _, v, v2, xs, cs, p1, p3, p2, p4, hs, h1, h2⟩
end
theorem keep_cell {W W' : World} {a : Addr} {v : Value} (h : W.cell? a = some v) (hb : Below W.heap.size W W') : W'.cell? a = some v := (hb.cell (cell_lt h)).trans h
end Go.Proofs.Ytkackejipgabfaa.Char

/- The walk of the document's own New. -/
namespace Go.Proofs.Ytkackejipgabfaa.Char
open Go.RowKit Go.Lib

def rootV : RcV := (rootR, .slice none 0 0, .slice none 0 0)
set_option maxRecDepth 100000 in
set_option maxHeartbeats 4000000 in
theorem refNew_any (B : Nat) (w : World) (hB : B ≤ w.heap.size) :
    Calls Try.prog 42 #[] w fun e w' => ∃ b v, e = .returned (.pointer (some ⟨b, 0, none⟩)) ∧ RefS B w' b v [(1, 0, rootV)] 1 0 ∧ Below w.heap.size w w' ∧ ∀ k, ownB b v k → w.heap.size ≤ k := by
  go_enter Try.func42, Try.ntmps42
  go_wp2_with fail
  go_ret
  obtain ⟨cs, hcs⟩ : ∃ cs : Array Value, cs = #[.int .i64 1, .int .u64 0, .int .i64 1, .string ⟨#[]⟩, .string ⟨#[]⟩, .int .i64 0, .slice none 0 0, .slice none 0 0, .bool false] := ⟨_, rfl⟩
  refine ⟨w.heap.size + 1, .slice (some ⟨w.heap.size, 0, none⟩) 1 1, rfl, ?_, ((Below.refl _ _).alloc (Nat.le_refl _) _).alloc (by simp) _, fun k hk => ?_⟩
  · rw [← hcs]
    have s1 : (w.alloc (.cells cs 150)).heap.size = w.heap.size + 1 := by simp
    refine ⟨by rw [← s1]; exact World.alloc_heap_new _ _, ⟨⟨rfl, .inr ⟨w.heap.size, 1, cs, rfl, hB, ?_, Nat.le_refl _, by decide, by rw [hcs]; rfl, by rw [hcs]; rfl⟩⟩, fun x hx => ?_⟩, by omega⟩
    · rw [Below.heap_alloc _ _ _ (by rw [s1]; omega)]
      exact World.alloc_heap_new _ _
    · rw [List.mem_singleton] at hx
      subst hx
      exact ⟨IntsOn.nil _ _ _ _, IntsOn.nil _ _ _ _⟩
  · rcases hk with rfl | hk
    · omega
    · simp [Value.ownBlock] at hk; omega
end Go.Proofs.Ytkackejipgabfaa.Char

/- A view, and the document's, in one memory, and a pair of pointers to them. -/
namespace Go.Proofs.Ytkackejipgabfaa.Char
open Go.RowKit Go.Lib

theorem RefG.start0 {B : Nat} {w : World} {b : Nat} {v : Value} (h : RefS B w b v [(1, 0, rootV)] 1 0) : RefG (fun _ => False) B w b v [(1, 0, rootV)] 1 0 :=
  ⟨h.cell, ⟨h.row.1, fun x hx => by rw [List.mem_singleton] at hx; subst hx; exact ⟨IntsOn.nil _ _ _ _, IntsOn.nil _ _ _ _⟩⟩, h.low, fun _ h => h.elim, fun _ h => h.elim⟩
/-- a view of a new store, and the document's -/
theorem two_new {Z Z1 : Nat → Prop} {B : Nat} {w2 w3 W : World} {b sb d : Nat} {v : Value} (hv : VS Z Z1 B w2 b sb 0 newS []) (hb : Below w2.heap.size w2 w3) (hr : RefG (fun _ => False) B w3 d v [(1, 0, rootV)] 1 0) (ho : ∀ k, ownB d v k → w2.heap.size ≤ k) (hb3 : Below w3.heap.size w3 W) {b2 : Nat} (h2 : w3.heap.size ≤ b2)
    (hc : W.heap[b2]? = some (.cells #[.pointer (some ⟨d, 0, none⟩), .int .u64 ((0 : Nat) : Int), .slice none 0 0] 94 (0, 0))) : Two Z Z1 (fun g => (w2.heap.size ≤ g ∧ g < w3.heap.size) ∨ g = b2) (fun _ => False) B B W b sb 0 b2 d 0 newS [] newS [] := by
  have hs := hb.size
  have hbl := (Array.getElem?_eq_some_iff.1 hc).1
  have hl := hv.lowB
  refine ⟨hv.below (hb.trans (hb3.mono hs)), ?_, fun g hg hy => ?_⟩
  · refine ws_of (hr.below hb3) hc (by omega) (fun g hg => ?_) (fun g hg => ?_) (fun g hg => ?_)
    · rcases hg with hg | hg
      · have := (hr.own hg).2; omega
      · exact hg.elim
    · rcases hg with hg | hg | hg
      · exact .inl ⟨ho g hg, (hr.own hg).2⟩
      · exact .inr hg
      · exact hg.elim
    · have := hb3.size
      rcases hg with (hg | hg) | hg
      · omega
      · omega
      · exact hg.elim
  · have h1 := (hv.zB g hg).2
    rcases hy with (hy | hy) | hy
    · omega
    · omega
    · exact hy
/-- both views through a pair at p; B: where the call began -/
structure PairI (T : TypeId) (B : Nat) (w0 W : World) (p b sb b2 d t : Nat) (S : Sto) (own : Own) (Z Z1 Y Y1 : Nat → Prop) : Prop where
  two : Two Z Z1 Y Y1 B B W b sb t b2 d t S own S own
  cell : W.heap[p]? = some (.cells #[.pointer (some ⟨b, 0, none⟩), .pointer (some ⟨b2, 0, none⟩)] T (0, 0))
  low : B ≤ p
  bel : Below B w0 W
section
variable {T : TypeId} {B : Nat} {w0 W : World} {p b sb b2 d t : Nat} {S : Sto} {own : Own} {Z Z1 Y Y1 : Nat → Prop}
theorem PairI.cells (h : PairI T B w0 W p b sb b2 d t S own Z Z1 Y Y1) : W.cell? ⟨p, 0, none⟩ = some (.pointer (some ⟨b, 0, none⟩)) ∧ W.cell? ⟨p, 1, none⟩ = some (.pointer (some ⟨b2, 0, none⟩)) := ⟨by simp [World.cell?, h.cell], by simp [World.cell?, h.cell]⟩
theorem PairI.lt (h : PairI T B w0 W p b sb b2 d t S own Z Z1 Y Y1) : p < W.heap.size := (Array.getElem?_eq_some_iff.1 h.cell).1
theorem PairI.below (h : PairI T B w0 W p b sb b2 d t S own Z Z1 Y Y1) {W' : World} (hb : Below W.heap.size W W') : PairI T B w0 W' p b sb b2 d t S own Z Z1 Y Y1 :=
  ⟨h.two.below hb, (hb.block p h.lt).trans h.cell, h.low, h.bel.trans (hb.mono h.two.vs.lowB)⟩
end
/-- both views while they are made; the blocks of which P holds are kept -/
structure HalfI (P : Nat → Prop) (B : Nat) (w0 W : World) (b sb b2 d t : Nat) (S : Sto) (own : Own) (S2 : Sto) (own2 : Own) (Z Z1 Y Y1 : Nat → Prop) : Prop where
  two : Two Z Z1 Y Y1 B B W b sb t b2 d t S own S2 own2
  np : ∀ g, P g → g < W.heap.size ∧ ¬ (Z g ∨ Z1 g) ∧ ¬ (Y g ∨ Y1 g)
  bel : Below B w0 W
section
variable {P : Nat → Prop} {B : Nat} {w0 W : World} {b sb b2 d t : Nat} {S S2 : Sto} {own own2 : Own} {Z Z1 Y Y1 : Nat → Prop}
theorem HalfI.below (h : HalfI P B w0 W b sb b2 d t S own S2 own2 Z Z1 Y Y1) {W' : World} (hb : Below W.heap.size W W') : HalfI P B w0 W' b sb b2 d t S own S2 own2 Z Z1 Y Y1 :=
  ⟨h.two.below hb, fun g hg => ⟨Nat.lt_of_lt_of_le (h.np g hg).1 hb.size, (h.np g hg).2⟩, h.bel.trans (hb.mono h.two.vs.lowB)⟩
/-- new blocks are kept, too -/
theorem HalfI.more (h : HalfI P B w0 W b sb b2 d t S own S2 own2 Z Z1 Y Y1) {W' : World} (hb : Below W.heap.size W W') : HalfI (fun g => P g ∨ (W.heap.size ≤ g ∧ g < W'.heap.size)) B w0 W' b sb b2 d t S own S2 own2 Z Z1 Y Y1 :=
  ⟨h.two.below hb, fun g hg => by
    rcases hg with hg | hg
    · exact ⟨Nat.lt_of_lt_of_le (h.np g hg).1 hb.size, (h.np g hg).2⟩
    · exact ⟨hg.2, fun hz => by have := (h.two.vs.zB g hz).2; omega, fun hz => by have := (h.two.ws.zB g hz).2; omega⟩, h.bel.trans (hb.mono h.two.vs.lowB)⟩
theorem HalfI.zlow (h : HalfI P B w0 W b sb b2 d t S own S2 own2 Z Z1 Y Y1) {g : Nat} (hg : g < B) : ¬ (Z g ∨ Z1 g) := fun hz => by have := (h.two.vs.zB g hz).1; omega
theorem HalfI.full {T : TypeId} {p : Nat} (h : HalfI P B w0 W b sb b2 d t S own S own Z Z1 Y Y1) (hc : W.heap[p]? = some (.cells #[.pointer (some ⟨b, 0, none⟩), .pointer (some ⟨b2, 0, none⟩)] T (0, 0))) (hp : B ≤ p) : PairI T B w0 W p b sb b2 d t S own Z Z1 Y Y1 := ⟨h.two, hc, hp, h.bel⟩
/-- behind a call of the program's -/
theorem HalfI.left (h : HalfI P B w0 W b sb b2 d t S own S2 own2 Z Z1 Y Y1) {W' : World} {Z' : Nat → Prop} {S' : Sto} {own' : Own} (ho : Only B (fun g => Z g ∨ Z1 g) W W') (ht : Two Z' Z1 Y Y1 B B W' b sb t b2 d t S' own' S2 own2) (hn : ∀ g, Z' g → Z g ∨ W.heap.size ≤ g) :
    HalfI P B w0 W' b sb b2 d t S' own' S2 own2 Z' Z1 Y Y1 ∧ ∀ g, P g → W'.heap[g]? = W.heap[g]? :=
  ⟨⟨ht, fun g hg => by
    obtain ⟨h1, h2, h3⟩ := h.np g hg
    refine ⟨Nat.lt_of_lt_of_le h1 ho.1.size, fun hz => ?_, h3⟩
    rcases hz with hz | hz
    · rcases hn g hz with q | q
      · exact h2 (.inl q)
      · omega
    · exact h2 (.inr hz), h.bel.trans ho.1⟩, fun g hg => ho.2 g (h.np g hg).1 (h.np g hg).2.1⟩
/-- behind a call of the document's -/
theorem HalfI.right (h : HalfI P B w0 W b sb b2 d t S own S2 own2 Z Z1 Y Y1) {W' : World} {Y' G : Nat → Prop} {S' : Sto} {own' : Own} (ho : Only B (fun g => Y g ∨ Y1 g) W W') (ht : Two Z Z1 Y' Y1 B B W' b sb t b2 d t S own S' own') (hn : ∀ g, Y' g → Y g ∨ G g ∨ W.heap.size ≤ g) :
    HalfI (fun g => P g ∧ ¬ G g) B w0 W' b sb b2 d t S own S' own' Z Z1 Y' Y1 ∧ ∀ g, P g → W'.heap[g]? = W.heap[g]? :=
  ⟨⟨ht, fun g hg => by
    obtain ⟨h1, h2, h3⟩ := h.np g hg.1
    refine ⟨Nat.lt_of_lt_of_le h1 ho.1.size, h2, fun hz => ?_⟩
    rcases hz with hz | hz
    · rcases hn g hz with q | q | q
      · exact h3 (.inl q)
      · exact hg.2 q
      · omega
    · exact h3 (.inr hz), h.bel.trans ho.1⟩, fun g hg => ho.2 g (h.np g hg).1 (h.np g hg).2.2⟩
theorem half_putV (h : HalfI P B w0 W b sb b2 d t S own S2 own2 Z Z1 Y Y1) (hl : own.length ≤ 10000000) (id : Int) (hid : (Lit.int .i64 id).wf = true) (x : RcV) {F : Nat → Prop} (hx : RcOn W F x) (hsm : RcSm x.1) :
    Calls Try.prog 23 #[.pointer (some ⟨b, 0, none⟩), .int .i64 id, rcV x] W fun e W' => e = .returned (.int .i64 (putE id x.1 : Int)) ∧ (∃ Z', HalfI P B w0 W' b sb b2 d t S (putO own id x.1) S2 own2 Z' Z1 Y Y1) ∧ Below B W W' ∧ ∀ g, P g → W'.heap[g]? = W.heap[g]? := by
  refine (two_putV h.two hl id hid x hx hsm).mono ?_
  rintro e W' ⟨q1, q2, Z', q3, q4, q5⟩
  exact ⟨q1, ⟨Z', (h.left q2 q3 q5).1⟩, q2.1, (h.left q2 q3 q5).2⟩
theorem half_putW (h : HalfI P B w0 W b sb b2 d t S own S2 own2 Z Z1 Y Y1) (hl : own2.length ≤ 10000000) (id : Int) (x : RcV) {G : Nat → Prop} (hx : RcOn W G x) (hG : ∀ g, G g → ¬ (Z g ∨ Z1 g) ∧ (¬ Y g ∨ g < B) ∧ g < W.heap.size) (hsm : RcSm x.1) :
    Calls Try.prog 44 #[.pointer (some ⟨b2, 0, none⟩), .int .i64 id, rcV x] W fun e W' => e = .returned (.int .i64 (putE id x.1 : Int)) ∧ (∃ Y', HalfI (fun g => P g ∧ ¬ G g) B w0 W' b sb b2 d t S own S2 (putO own2 id x.1) Z Z1 Y' Y1) ∧ Below B W W' ∧ ∀ g, P g → W'.heap[g]? = W.heap[g]? := by
  refine (two_putW h.two hl id x hx hG hsm).mono ?_
  rintro e W' ⟨q1, q2, Y', q3, q4, q5⟩
  exact ⟨q1, ⟨Y', (h.right q2 q3 q5).1⟩, q2.1, (h.right q2 q3 q5).2⟩
theorem half_plantV (h : HalfI P B w0 W b sb b2 d t S own S2 own2 Z Z1 Y Y1) {F : Nat → Prop} (n : Tr) (va vk : Value) (par : Int) (hc : cntT n ≤ 100000) (hn : NdOn W F n va vk) (hF : ∀ g, F g → g < W.heap.size ∧ ¬ (Z g ∨ Z1 g)) (hg : S.given + totP n ≤ 10000000) (hl : own.length + totP n ≤ 10000000) :
    Calls Try.prog 21 #[.pointer (some ⟨b, 0, none⟩), ndV n va vk, .int .i64 par] W fun e W' => e = .returned (.int .i64 (plantT n par S.given own).1) ∧ (∃ Z', HalfI P B w0 W' b sb b2 d t { S with given := (plantT n par S.given own).2.1 } (plantT n par S.given own).2.2 S2 own2 Z' Z1 Y Y1) ∧ Below B W W' ∧ ∀ g, P g → W'.heap[g]? = W.heap[g]? := by
  refine (two_plantV h.two n va vk par hc hn hF hg hl).mono ?_
  rintro e W' ⟨q1, q2, Z', q3, q4, q5⟩
  exact ⟨q1, ⟨Z', (h.left q2 q3 q5).1⟩, q2.1, (h.left q2 q3 q5).2⟩
theorem half_plantW (h : HalfI P B w0 W b sb b2 d t S own S2 own2 Z Z1 Y Y1) {F : Nat → Prop} (n : Tr) (va vk : Value) (par : Int) (hc : cntT n ≤ 100000) (hn : NdOn W F n va vk) (hF : ∀ g, F g → g < W.heap.size ∧ (g < B ∨ ¬ (Y g ∨ Y1 g))) (hg : S2.given + totP n ≤ 10000000) (hl : own2.length + totP n ≤ 10000000) :
    Calls Try.prog 43 #[.pointer (some ⟨b2, 0, none⟩), ndV n va vk, .int .i64 par] W fun e W' => e = .returned (.int .i64 (plantT n par S2.given own2).1) ∧ (∃ Y', HalfI P B w0 W' b sb b2 d t S own { S2 with given := (plantT n par S2.given own2).2.1 } (plantT n par S2.given own2).2.2 Z Z1 Y' Y1) ∧ Below B W W' ∧ ∀ g, P g → W'.heap[g]? = W.heap[g]? := by
  refine (two_plantW h.two n va vk par hc hn hF hg hl).mono ?_
  rintro e W' ⟨q1, q2, Y', q3, q4, q5⟩
  have q6 := h.right (G := fun _ => False) q2 q3 (fun g hg => (q5 g hg).elim .inl (fun q => .inr (.inr q)))
  exact ⟨q1, ⟨Y', q6.1.two, fun g hg => q6.1.np g ⟨hg, fun q => q⟩, q6.1.bel⟩, q2.1, q6.2⟩
theorem HalfI.less {P' : Nat → Prop} (h : HalfI P B w0 W b sb b2 d t S own S2 own2 Z Z1 Y Y1) (hp : ∀ g, P' g → P g) : HalfI P' B w0 W b sb b2 d t S own S2 own2 Z Z1 Y Y1 := ⟨h.two, fun g hg => h.np g (hp g hg), h.bel⟩
end
end Go.Proofs.Ytkackejipgabfaa.Char
