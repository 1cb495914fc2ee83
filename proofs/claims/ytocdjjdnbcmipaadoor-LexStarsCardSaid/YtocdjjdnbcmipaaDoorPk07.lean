/- WordsW LexW Same12 Laws12 LawSpaces LexB LexS -/
import Derived.Test.YtocdjjdnbcmipaaDoorPk06
import Derived.Test.YtocdjjdnbcmipaaDoorPk04
import Derived.Deep.LoopGhost
/- The walk of the lexer's words. -/
namespace Go.Proofs.YtocdjjdnbcmipaaDoor.Char
open Go.RowKit Go.Lib
open Go.Proofs.YtocdjjdnbcmipaaDoor.Fig (outT outV)


/-- the three boxes, made -/
theorem env_new (w w1 : World) (l : List UInt8) (hb : Below w.heap.size w w1) : Env w.heap.size w1.heap.size w (((w1.alloc (.cells #[.string (bs l)] 9)).alloc (.cells #[.bool false] 4)).alloc (fnB w1.heap.size)) l false := by
  obtain ⟨A, hA⟩ : ∃ A, A = w1.alloc (.cells #[.string (bs l)] 9) := ⟨_, rfl⟩
  have a1 : A.heap[w1.heap.size]? = some (.cells #[.string (bs l)] 9 (0, 0)) := by rw [hA]; exact World.alloc_heap_new w1 _
  have a2 : A.heap.size = w1.heap.size + 1 := by rw [hA]; exact World.size_alloc _ _
  have a3 : Below w1.heap.size w1 A := by rw [hA]; exact below_box _
  rw [← hA]
  clear hA
  obtain ⟨B, hB⟩ : ∃ B, B = A.alloc (.cells #[.bool false] 4) := ⟨_, rfl⟩
  have b1 : B.heap[A.heap.size]? = some (.cells #[.bool false] 4 (0, 0)) := by rw [hB]; exact World.alloc_heap_new A _
  have b2 : B.heap.size = A.heap.size + 1 := by rw [hB]; exact World.size_alloc _ _
  have b3 : Below A.heap.size A B := by rw [hB]; exact below_box _
  rw [← hB]
  clear hB
  obtain ⟨C, hC⟩ : ∃ C, C = B.alloc (fnB w1.heap.size) := ⟨_, rfl⟩
  have c1 : C.heap[B.heap.size]? = some (fnB w1.heap.size) := by rw [hC]; exact World.alloc_heap_new B _
  have c3 : Below B.heap.size B C := by rw [hC]; exact below_box _
  rw [← hC]
  clear hC
  have d1 : C.heap[w1.heap.size]? = some (.cells #[.string (bs l)] 9 (0, 0)) := (c3.block _ (by omega)).trans ((b3.block _ (by omega)).trans a1)
  have d2 : C.heap[w1.heap.size + 1]? = some (.cells #[.bool false] 4 (0, 0)) := (c3.block _ (by omega)).trans (by rw [← a2]; exact b1)
  refine ⟨hb.trans ((a3.trans ((b3.mono (by omega)).trans (c3.mono (by omega)))).mono hb.size), hb.size, ?_, ?_, ?_, ?_, ?_⟩
  · simp only [World.cell?, d1]; rfl
  · simp only [World.frozen?, d1]; rfl
  · simp only [World.cell?, d2]; rfl
  · simp only [World.frozen?, d2]; rfl
  · rw [show w1.heap.size + 1 + 1 = B.heap.size by omega]; exact c1

theorem ownsWd_low {B B' : Nat} {w : World} {v : Value} {xs : List Wd} (h : OwnsWd B w v xs) (hb : B' ≤ B) : OwnsWd B' w v xs := by
  obtain ⟨h1, h2⟩ := h
  refine ⟨h1, ?_⟩
  rcases h2 with h0 | ⟨g, cap, cur, e1, e2, hg, e3⟩
  · exact .inl h0
  · exact .inr ⟨g, cap, cur, e1, Nat.le_trans hb e2, hg, e3⟩
theorem owns_set {L : Nat} {w : World} {v : Value} {xs : List Wd} (h : OwnsWd (L + 3) w v xs) (a b : Value) : OwnsWd (L + 3) ((w.setCell ⟨L, 0, none⟩ a).setCell ⟨L + 1, 0, none⟩ b) v xs :=
  h.keep fun g hg => by
    have := (h.blk hg).1
    rw [heap_set_ne (a := ⟨L + 1, 0, none⟩) (by show g ≠ L + 1; omega), heap_set_ne (a := ⟨L, 0, none⟩) (by show g ≠ L; omega)]
theorem words_step {l : List UInt8} {e : Bool} {x : Wd} {n : Nat} {xs : List Wd} {R : Nat ⊕ List Wd} (hl : l ≠ []) (h : wdL l e = some (x, n)) (h1 : ¬ xs.length = 120) (hr : appW xs (lexG l e xs.length) = R) : appW (xs ++ [x]) (lexG (dropS (l.drop n)) (endW x) (xs ++ [x]).length) = R := by
  rw [lexG_some hl h h1, appW_app] at hr
  rw [List.length_append]
  exact hr
theorem words_tx {l : List UInt8} {e : Bool} {x : Wd} {n : Nat} (h : wdL l e = some (x, n)) (ht : txD l = true) : txD (dropS (l.drop n)) = true := by
  rw [← take_app (l := l) n] at ht
  exact tx_dropS (form_rest (wd_form h) ht)
set_option maxHeartbeats 8000000 in
theorem words_any (s : List UInt8) (w : World) (hl : s.length ≤ 400) (ht : txD (dropS s) = true) (hG : Gl w) : Calls Tryd.prog 13 #[.string (bs s)] w (WordsPost w (lexG (dropS s) false 0)) := by
  have HS := Lib.hid (behindS_any s w)
  obtain ⟨R, hR⟩ : ∃ R, lexG (dropS s) false 0 = R := ⟨_, rfl⟩
  rw [hR]
  have HR := Lib.hid hR
  have HG := Lib.hid hG
  have HD := Lib.hid (Nat.le_trans (dropS_le s) hl)
  have HT := Lib.hid ht
  clear hR hG hl ht
  generalize dropS s = l0 at *
  go_enter Tryd.func13, Tryd.ntmps13
  go_wp2
  go_step3
  go_wp2_with (first
    | (go_at_call 19
       refine HS.out.mono ?_
       rintro e w1 ⟨rfl, hb1⟩
       have HE1 := Lib.hid (env_new w w1 l0 hb1)
       clear hb1 HS))
  obtain ⟨W4, hW4⟩ : ∃ W4, W4 = (((w1.alloc (.cells #[.string (bs l0)] 9)).alloc (.cells #[.bool false] 4)).alloc (fnB w1.heap.size)) := ⟨_, rfl⟩
  have HE4 := HE1
  rw [← hW4] at HE4
  simp only [fnB, fnK] at hW4
  rw [← hW4]
  clear hW4 HE1
  generalize w1.heap.size = L at *
  clear w1
  go_step3
  go_wp2
  go_loopg [7] l0.length (fun g s7 wr => ∃ xs l e, l.length = g ∧ Hid (Env w.heap.size L w wr l e ∧ OwnsWd (L + 3) wr s7 xs ∧ appW xs (lexG l e xs.length) = R ∧ l.length ≤ 400 ∧ txD l = true ∧ xs.length ≤ 120))
  case atStart => exact ⟨[], l0, false, rfl, Lib.hid ⟨HE4.out, OwnsWd.nil _ _, by rw [appW_nil]; exact HR.out, HD.out, HT.out, Nat.zero_le _⟩⟩
  case round =>
    obtain ⟨xs, l, e, hg, HQ⟩ := hrel
    have hll := HQ.out.1.ll
    have hlf := HQ.out.1.lf
    have hel := HQ.out.1.el
    have hef := HQ.out.1.ef
    clear HE4 HR HD HT
    cases l with
    | nil =>
      have hne : ((bs []).toList == []) = true := by rw [bs_tl]; rfl
      go_wp2_with fail
      try rw [Exit.noGoto_ret]
      go_ret2
      refine ⟨HQ.out.1.hb, ?_⟩
      have hr := HQ.out.2.2.1
      rw [lexG_nil] at hr
      rw [← hr]
      exact ⟨_, rfl, by rw [List.append_nil]; exact ownsWd_low HQ.out.2.1 (Nat.le_trans HQ.out.1.hL (by omega))⟩
    | cons c t =>
      have hne : ((bs (c :: t)).toList == []) = false := by rw [bs_tl]; rfl
      obtain ⟨f0, f1, f2, f3, f4, f5, f6⟩ := HQ.out.1.fns
      go_wp2_with fail
      clear hll hlf hel hef f0 f1 f2 f3 f4 f5 f6 hne
      have HRR := Lib.hid HQ.out.2.2
      have HGK := Lib.hid hg
      have HW0 := Lib.hid (And.intro HQ.out.1 HQ.out.2.1)
      clear HQ hg
      go_loopg [7, 25] 7 (fun g s7 s25 wi => ∃ k : Nat, s25 = .int .i64 (k : Int) ∧ k + g = 7 ∧ Hid (Env w.heap.size L w wi (c :: t) e ∧ OwnsWd (L + 3) wi s7 xs ∧ orAt k (c :: t) e = wdL (c :: t) e))
      case atStart => exact ⟨0, rfl, rfl, Lib.hid ⟨HW0.out.1, HW0.out.2, rfl⟩⟩
      case round =>
        obtain ⟨k, rfl, hkg, HI⟩ := hrel
        clear HW0
        by_cases hk : k < 7
        · have hlt : decide ((k : Int) < 7) = true := decide_eq_true (by omega)
          obtain ⟨g2, rfl⟩ : ∃ g2, gk = g2 + 1 := ⟨gk - 1, by omega⟩
          obtain ⟨fg, cs, hfn, hent, hcall⟩ := kd_call k hk L (c :: t) e wr HRR.out.2.1 (by simp) HRR.out.2.2.1 (HG.out.below HI.out.1.hb) HI.out.1.ll HI.out.1.el
          have hidx := index_fn L k hk
          rw [hfn] at hidx
          have hst := orAt_step k hk (c :: t) e
          rw [HI.out.2.2] at hst
          obtain ⟨o, j, hu⟩ := HI.out.2.1.form
          subst hu
          cases hkd : kdW k (c :: t) e with
          | none =>
            rw [hkd] at hcall hst
            rw [orW_none] at hst
            have HC := Lib.hid hcall
            have HST := Lib.hid hst
            have HKG := Lib.hid hkg
            have HK := Lib.hid hk
            have hz0 : (0 : Int) ≤ (k : Int) := by omega
            have hz1 : (k : Int) < 7 := by omega
            clear hcall hst hkg hkd hfn hk
            go_wp2_with (first
              | (go_at_fn fg
                 refine HC.out.mono ?_
                 intro e' w5 hz
                 obtain ⟨x, n, hx, rfl, hb5⟩ := wdPost_out hz
                 cases hx
                 have HB5 := Lib.hid hb5
                 clear hb5 hz HC))
            go_roundg g2
            case measure => omega
            case rel => exact ⟨k + 1, by have := HK.out; go_num, by have := HKG.out; omega, Lib.hid ⟨HI.out.1.below (HB5.out.trans ((below_box _).mono HB5.out.size)), HI.out.2.1.below (HB5.out.trans ((below_box _).mono HB5.out.size)), HST.out.symm⟩⟩
          | some q =>
            obtain ⟨x, n⟩ := q
            rw [hkd] at hcall hst
            rw [orW_some] at hst
            have hnl := wdL_len hst
            have hn0 : ((n : Int) == 0) = false := by rw [beq_eq_false_iff_ne]; omega
            have HC := Lib.hid hcall
            have HST := Lib.hid hst
            have HNL := Lib.hid hnl
            clear hcall hst hkg hkd hfn hk hnl
            by_cases h120 : xs.length = 120
            · have hx120 : ((xs.length : Int) == 120) = true := by rw [h120]; rfl
              have HXL := Lib.hid h120
              clear h120
              go_wp2_with (first
                | (go_at_fn fg
                   refine HC.out.mono ?_
                   intro e' w5 hz
                   obtain ⟨x', n', hx, rfl, hb5⟩ := wdPost_out hz
                   cases hx
                   have HB5 := Lib.hid hb5
                   clear hb5 hz HC))
              try rw [Exit.noGoto_ret]
              go_ret2
              refine ⟨(HI.out.1.below (HB5.out.trans ((below_box _).mono HB5.out.size))).hb, ?_⟩
              have hr := HRR.out.1
              rw [HXL.out, lexG_full (by simp) HST.out] at hr
              rw [← hr]
              rfl
            · have hx120 : ((xs.length : Int) == 120) = false := by rw [beq_eq_false_iff_ne]; omega
              have HXL := Lib.hid h120
              have hxl : xs.length ≤ 1000 := by have := HRR.out.2.2.2; omega
              have hsl := slice_from (c :: t) n HNL.out.2
              clear h120
              go_upto_region 13 with (first
                | (go_at_fn fg
                   refine HC.out.mono ?_
                   intro e' w5 hz
                   obtain ⟨x', n', hx, rfl, hb5⟩ := wdPost_out hz
                   cases hx
                   have HO6 := Lib.hid ((HI.out.2.1.below hb5).below (below_box (.cells #[.int .i64 (x.k : Int), .string (bs x.s), .int .i64 (outT x.n), .int .i64 (outV x.n)] 35)))
                   have HE6 := Lib.hid ((HI.out.1.below hb5).below (below_box (.cells #[.int .i64 (x.k : Int), .string (bs x.s), .int .i64 (outT x.n), .int .i64 (outV x.n)] 35)))
                   have hkx : (w5.alloc (.cells #[.int .i64 (x.k : Int), .string (bs x.s), .int .i64 (outT x.n), .int .i64 (outV x.n)] 35)).heap[w5.heap.size]? = some (wdB x) := World.alloc_heap_new w5 _
                   have HKX := Lib.hid hkx
                   have HB5 := Lib.hid hb5
                   have hs5 := World.size_alloc w5 (.cells #[.int .i64 (x.k : Int), .string (bs x.s), .int .i64 (outT x.n), .int .i64 (outV x.n)] 35)
                   obtain ⟨⟨x0, x1, x2, x3⟩, _⟩ := wd_blk hkx
                   have HS5 := Lib.hid hs5
                   clear hb5 hz HC hkx hs5)
                | (at_builtin
                   refine wpList_pushWd rfl (.tmp 38) (.tmp 40) rfl x HO6.out rfl (by simp [Act.eval]) (HE6.out.lt) (by omega) ?_
                   intro u7' w7 q1 q2 q3 q4
                   have hdr : Below w7.heap.size w7 w7.drew := (Below.refl _ _).drew
                   have HE7 := Lib.hid ((HE6.out.low q2).below hdr)
                   have HO7 := Lib.hid (q1.below hdr)
                   have hkx : w7.drew.heap[w5.heap.size]? = some (wdB x) := (q3 _ (by have := HS5.out; omega) (fun h => by have := (HI.out.2.1.below HB5.out).blk h.symm; omega)).trans HKX.out
                   have HKX := Lib.hid hkx
                   have HLX := Lib.hid (Array.getElem?_eq_some_iff.1 hkx).1
                   clear x0 x1 x2 x3
                   obtain ⟨⟨x0, x1, x2, x3⟩, _⟩ := wd_blk hkx
                   have l0 := HE7.out.ll
                   clear hdr hkx q1 q2 q3 q4))
              have hs7 : w7.drew.heap.size = w7.heap.size := rfl
              have HS7 := Lib.hid hs7
              clear hs7
              go_region_with (first
                | (go_at_call 19
                   refine (behindS_any ((c :: t).drop n) _).mono ?_
                   rintro e' w8 ⟨rfl, hb8⟩
                   have HE8 := Lib.hid (HE7.out.below hb8)
                   have HO8 := Lib.hid (HO7.out.below hb8)
                   have hkx := (hb8.block _ HLX.out).trans HKX.out
                   obtain ⟨⟨z0, z1, z2, z3⟩, _⟩ := wd_blk hkx
                   clear hb8 hkx)
                | (go_at_call 35
                   refine (ends_any x _).mono ?_
                   rintro e' w9 ⟨rfl, hb9⟩
                   have HE9 := Lib.hid (HE8.out.below hb9)
                   have HO9 := Lib.hid (HO8.out.below hb9)
                   have s0 := HE9.out.ll
                   have s1 := HE9.out.lf
                   have s2 := HE9.out.el
                   have s3 := HE9.out.ef
                   clear hb9))
              all_goals
                go_wp2_with fail
                go_roundg (dropS ((c :: t).drop n)).length
                case measure =>
                  have h1 := dropS_le ((c :: t).drop n)
                  have h2 := HNL.out
                  have h3 := HGK.out
                  rw [List.length_drop] at h1
                  omega
                case rel => exact ⟨xs ++ [x], dropS ((c :: t).drop n), endW x, rfl, Lib.hid ⟨HE9.out.set _ _, owns_set HO9.out _ _, words_step (by simp) HST.out HXL.out HRR.out.1, Nat.le_trans (dropS_le _) (by rw [List.length_drop]; have := HRR.out.2.1; omega), words_tx HST.out HRR.out.2.2.1, by rw [List.length_append]; have := HRR.out.2.2.2; have := HXL.out; simp; omega⟩⟩
        · have hlt : decide ((k : Int) < 7) = false := decide_eq_false (by omega)
          obtain rfl : k = 7 := by omega
          clear hkg hk
          go_wp2_with fail
          try rw [Exit.noGoto_ret]
          go_ret2
          refine ⟨HI.out.1.hb, ?_⟩
          have hr := HRR.out.1
          have hw : wdL (c :: t) e = none := HI.out.2.2.symm
          rw [lexG_none _ (by simp) hw] at hr
          rw [← hr]
          rfl
end Go.Proofs.YtocdjjdnbcmipaaDoor.Char

/- The walk of the lexer itself. -/
namespace Go.Proofs.YtocdjjdnbcmipaaDoor.Char
open Go.RowKit Go.Lib

/-- a slice and a reason -/
def WordsAt (w : World) (R : Nat ⊕ List Wd) (v : Value) (x : Int) (w' : World) : Prop := Below w.heap.size w w' ∧ match R with
  | .inl y => v = .slice none 0 0 ∧ x = (y : Int)
  | .inr ws => x = 0 ∧ OwnsWd w.heap.size w' v ws
theorem words_out {w : World} {R : Nat ⊕ List Wd} {e : Ending} {w' : World} (h : WordsPost w R e w') : ∃ v x, e = .returned (.tuple #[v, .int .i64 x]) ∧ WordsAt w R v x w' := by
  obtain ⟨h1, h2⟩ := h
  cases R with
  | inl y => exact ⟨_, _, h2, h1, rfl, rfl⟩
  | inr ws => obtain ⟨v, h3, h4⟩ := h2; exact ⟨v, _, h3, h1, rfl, h4⟩
theorem words_in {w w1 w2 : World} {R : Nat ⊕ List Wd} {v : Value} {x : Int} (hb : Below w.heap.size w w1) (h : WordsAt w1 R v x w2) : WordsPost w R (.returned (.tuple #[v, .int .i64 x])) w2 := by
  obtain ⟨h1, h2⟩ := h
  refine ⟨hb.trans (h1.mono hb.size), ?_⟩
  cases R with
  | inl y => obtain ⟨rfl, rfl⟩ := h2; rfl
  | inr ws => obtain ⟨rfl, h4⟩ := h2; exact ⟨v, rfl, ownsWd_low h4 hb.size⟩
set_option maxHeartbeats 2000000 in
theorem lex_any (s : List UInt8) (w : World) (hl : s.length ≤ 140737488351232) (hG : Gl w) : Calls Tryd.prog 8 #[.string (bs s)] w (WordsPost w (lexL s)) := by
  have hsz := bs_size s
  have hTx := text_any (bs s) w (by omega) hG.1
  rw [bs_list] at hTx
  have HT := Lib.hid hTx
  have hv : lexL s = if 400 < s.length then .inl 3 else if txD s = false then .inl 10 else lexG (dropS s) false 0 := rfl
  clear hTx hl
  by_cases h1 : 400 < s.length
  · have k1 : decide ((400 : Int) < (s.length : Int)) = true := decide_eq_true (by omega)
    have hr : lexL s = .inl 3 := by rw [hv, if_pos h1]
    rw [hr]
    clear hv h1 hr
    go_enter Tryd.func8, Tryd.ntmps8
    go_wp2_with fail
    go_ret2
    exact ⟨Below.refl _ _, rfl⟩
  · have k1 : decide ((400 : Int) < (s.length : Int)) = false := decide_eq_false (by omega)
    cases ht : txD s with
    | false =>
      have hr : lexL s = .inl 10 := by rw [hv, if_neg h1, if_pos ht]
      rw [hr]
      rw [ht] at HT
      clear hv h1 hr ht
      go_enter Tryd.func8, Tryd.ntmps8
      go_wp2_with (first
        | (go_at_call 12
           refine HT.out.mono ?_
           rintro e w1 ⟨rfl, hb1⟩
           have HB1 := Lib.hid hb1
           clear hb1 HT))
      go_ret2
      exact ⟨HB1.out, rfl⟩
    | true =>
      have hr : lexL s = lexG (dropS s) false 0 := by rw [hv, if_neg h1, if_neg (by rw [ht]; decide)]
      rw [hr]
      rw [ht] at HT
      have HW := Lib.hid fun (W : World) (hb : Below w.heap.size w W) => words_any s W (by omega) (tx_dropS ht) (hG.below hb)
      clear hv h1 hr ht
      generalize lexG (dropS s) false 0 = R at *
      go_enter Tryd.func8, Tryd.ntmps8
      go_wp2_with (first
        | (go_at_call 12
           refine HT.out.mono ?_
           rintro e w1 ⟨rfl, hb1⟩
           have HB1 := Lib.hid hb1
           have HW1 := Lib.hid (HW.out w1 hb1)
           clear hb1 HT)
        | (go_at_call 13
           refine HW1.out.mono ?_
           intro e w2 hz
           obtain ⟨v, x, rfl, hz2⟩ := words_out hz
           have HZ := Lib.hid hz2
           clear hz hz2))
      go_ret2
      exact words_in HB1.out HZ.out
end Go.Proofs.YtocdjjdnbcmipaaDoor.Char

/- The document's Same, of two lists of the same words. -/
namespace Go.Proofs.YtocdjjdnbcmipaaDoor.Char
open Go.RowKit Go.Lib
open Go.Proofs.YtocdjjdnbcmipaaDoor.Fig (outT outV)

set_option maxHeartbeats 4000000 in
theorem same_any (B1 B2 : Nat) (v1 v2 : Value) (xs : List Wd) (w : World) (h1 : OwnsWd B1 w v1 xs) (h2 : OwnsWd B2 w v2 xs) (hl : xs.length ≤ 1000) : Calls Tryd.prog 10 #[v1, v2] w fun e w' => e = .returned (.bool true) ∧ Below w.heap.size w w' := by
  obtain ⟨o1, j1, rfl⟩ := h1.form
  obtain ⟨o2, j2, rfl⟩ := h2.form
  have H1 := Lib.hid h1
  have H2 := Lib.hid h2
  have k0 : ((xs.length : Int) == (xs.length : Int)) = true := by simp
  clear h1 h2
  go_enter Tryd.func10, Tryd.ntmps10
  go_wp2_with fail
  go_loopw [5] (fun v wr => ∃ k : Nat, v = .int .i64 (k : Int) ∧ k ≤ xs.length ∧ Hid (Below w.heap.size w wr)) (fun v _ => xs.length - (RowKit.intOf v).toNat)
  case atStart => exact ⟨0, rfl, Nat.zero_le _, Lib.hid (Below.refl _ _)⟩
  case round =>
    obtain ⟨k, rfl, hk, HB⟩ := hrel
    by_cases hlt : k < xs.length
    · obtain ⟨g1, rfl, hg1, x0, x1, x2, x3⟩ := (H1.out.below HB.out).reads k hlt
      obtain ⟨g2, rfl, hg2, y0, y1, y2, y3⟩ := (H2.out.below HB.out).reads k hlt
      have k1 : decide ((k : Int) < (xs.length : Int)) = true := decide_eq_true (by omega)
      have hz0 : (0 : Int) ≤ (k : Int) := by omega
      have hz1 : (k : Int) < (xs.length : Int) := by omega
      have HLT := Lib.hid hlt
      generalize (xs[k].k : Int) = c0 at *
      generalize bs xs[k].s = c1 at *
      generalize outT xs[k].n = c2 at *
      generalize outV xs[k].n = c3 at *
      clear hlt hk hg1 hg2
      go_upto_region 6 with fail
      go_quiet (fail)
      go_wp2_with fail
      exact ⟨⟨k + 1, by go_num, by have := HLT.out; omega, Lib.hid (HB.out.trans ⟨rfl, rfl, rfl, Nat.le_refl _, fun _ _ => rfl⟩)⟩, by have := HLT.out; simp [RowKit.intOf]; omega⟩
    · have k1 : decide ((k : Int) < (xs.length : Int)) = false := decide_eq_false (by omega)
      have k2 : decide (k < xs.length) = false := decide_eq_false hlt
      clear hlt hk
      go_wp2_with fail
      go_ret
      exact ⟨rfl, HB.out⟩
end Go.Proofs.YtocdjjdnbcmipaaDoor.Char

/- Three stars have their words. -/
namespace Go.Proofs.YtocdjjdnbcmipaaDoor.Char
open Go.RowKit Go.Lib
open Go.Proofs.YtocdjjdnbcmipaaDoor.Fig (outT outV)

theorem stars_lex : lexL [42, 32, 42, 32, 42] = .inr [⟨3, [42], .num 0⟩, ⟨5, [42], .num 0⟩, ⟨3, [42], .num 0⟩] := by kernel_rfl
set_option maxHeartbeats 2000000 in
theorem works_any (w : World) (hG : Gl w) : Calls Tryd.prog 7 #[] w fun e w' => e = .returned (.bool true) ∧ Below w.heap.size w w' := by
  have h := lex_any [42, 32, 42, 32, 42] w (by decide) hG
  rw [stars_lex] at h
  have HL := Lib.hid h
  clear h
  go_enter Tryd.func7, Tryd.ntmps7
  go_wp2_with (first
    | (go_at_call 8
       refine HL.out.mono ?_
       intro e w1 hz
       obtain ⟨v, x, rfl, hb1, rfl, ho⟩ := words_out hz
       obtain ⟨o, j, rfl⟩ := ho.form
       obtain ⟨g, rfl, hg, x0, _⟩ := ho.reads 0 (by decide)
       obtain ⟨g1, hg1, _, x1, _⟩ := ho.reads 1 (by decide)
       obtain ⟨g2, hg2, _, x2, _⟩ := ho.reads 2 (by decide)
       cases hg1
       cases hg2
       have HB1 := Lib.hid hb1
       clear hz hb1 ho hg HL))
  go_ret
  exact ⟨rfl, HB1.out⟩
end Go.Proofs.YtocdjjdnbcmipaaDoor.Char

/- Spaces at both ends of a text turn none of its words. -/
namespace Go.Proofs.YtocdjjdnbcmipaaDoor.Char
open Go.RowKit Go.Lib

def gapL : List UInt8 := [32, 9, 13, 10, 32, 10, 32, 32, 9]
theorem gap_spaces (k : Nat) : ∀ b ∈ gapL.take k, spC (b.toNat : Int) = true := fun b hb => by
  have h : ∀ b ∈ gapL, spC (b.toNat : Int) = true := by decide
  exact h b (List.mem_of_mem_take hb)
/-- two answers that are one -/
theorem words_two {w w1 w2 w3 : World} {R : Nat ⊕ List Wd} {v1 v2 : Value} {x1 x2 : Int} (h1 : WordsAt w R v1 x1 w1) (h2 : WordsAt w2 R v2 x2 w3) (hb : Below w1.heap.size w1 w3) : x1 = x2 ∧ ∃ xs B1 B2, OwnsWd B1 w3 v1 xs ∧ OwnsWd B2 w3 v2 xs := by
  obtain ⟨_, h1⟩ := h1
  obtain ⟨_, h2⟩ := h2
  cases R with
  | inl y =>
    obtain ⟨rfl, rfl⟩ := h1
    obtain ⟨rfl, rfl⟩ := h2
    exact ⟨rfl, [], 0, 0, OwnsWd.nil _ _, OwnsWd.nil _ _⟩
  | inr ws =>
    obtain ⟨rfl, h1⟩ := h1
    obtain ⟨rfl, h2⟩ := h2
    exact ⟨rfl, ws, _, _, h1.below hb, h2⟩
theorem lexG_len : ∀ (f : Nat) (l : List UInt8) (e : Bool) (n : Nat) (ws : List Wd), n ≤ 120 → lexN f l e n = .inr ws → n + ws.length ≤ 120
  | 0, _, _, _, _, _, h => by cases h
  | f + 1, l, e, n, ws, hn, h => by
    unfold lexN at h
    by_cases hl : l = []
    · rw [if_pos hl] at h
      cases h
      exact hn
    · rw [if_neg hl] at h
      cases hw : wdL l e with
      | none => rw [hw] at h; cases h
      | some q =>
        obtain ⟨w, k⟩ := q
        rw [hw] at h
        dsimp only at h
        by_cases h1 : n = 120
        · rw [if_pos h1] at h; cases h
        · rw [if_neg h1] at h
          cases hr : lexN f (dropS (l.drop k)) (endW w) (n + 1) with
          | inl x => rw [hr] at h; cases h
          | inr vs =>
            rw [hr] at h
            cases h
            have := lexG_len f _ _ _ _ (by omega) hr
            rw [List.length_cons]
            omega
theorem lexL_len {s : List UInt8} {ws : List Wd} (h : lexL s = .inr ws) : ws.length ≤ 120 := by
  unfold lexL at h
  split at h
  · cases h
  · split at h
    · cases h
    · have := lexG_len _ _ _ _ _ (Nat.zero_le _) h
      omega
theorem words_len {w w1 : World} {s : List UInt8} {v : Value} {x : Int} (h : WordsAt w (lexL s) v x w1) {B : Nat} {W : World} {xs : List Wd} (ho : OwnsWd B W v xs) : xs.length ≤ 120 := by
  obtain ⟨_, h⟩ := h
  obtain ⟨o, j, rfl⟩ := ho.form
  cases hr : lexL s with
  | inl y => rw [hr] at h; have := h.1; injection this with _ h2 _; omega
  | inr ws =>
    rw [hr] at h
    obtain ⟨o2, j2, h3⟩ := h.2.form
    injection h3 with _ h4 _
    have := lexL_len hr
    omega
set_option maxHeartbeats 4000000 in
theorem spaces_law (s : ByteArray) (z : Int) (w : World) (hz : 0 ≤ z ∧ z ≤ 255) (hG : Gl w) (hs : s.size ≤ 140737488351232) :
    Calls Tryd.prog 6 #[.string s, .int .u8 z] w fun e w' => e = .returned (.bool true) ∧ Below w.heap.size w w' := by
  obtain ⟨l, rfl⟩ : ∃ l, s = bs l := ⟨s.data.toList, (bs_of s).symm⟩
  have hsz := bs_size l
  have HW := Lib.hid fun (W : World) (hb : Below w.heap.size w W) => works_any W (hG.below hb)
  by_cases h1 : 380 < l.length
  · have k1 : decide ((380 : Int) < (l.length : Int)) = true := decide_eq_true (by omega)
    have HW1 := Lib.hid (HW.out w (Below.refl _ _))
    clear h1 hz HW
    go_enter Tryd.func6, Tryd.ntmps6
    go_wp2_with (first
      | (go_at_call 7
         refine HW1.out.mono ?_
         rintro e w1 ⟨rfl, hb1⟩
         have HB1 := Lib.hid hb1
         clear hb1 HW1))
    go_ret
    exact ⟨rfl, HB1.out⟩
  · have k1 : decide ((380 : Int) < (l.length : Int)) = false := decide_eq_false (by omega)
    obtain ⟨k, hk⟩ : ∃ k : Nat, z.tmod 9 = (k : Int) := ⟨(z.tmod 9).toNat, by have := Int.tmod_nonneg 9 hz.1; omega⟩
    have hk9 : k ≤ 9 := by have := Int.tmod_lt_of_pos z (show (0 : Int) < 9 by omega); omega
    obtain ⟨G, hG1⟩ : ∃ G, gapL.take k = G := ⟨_, rfl⟩
    have hgl : G.length ≤ 9 := by rw [← hG1, List.length_take]; simp [gapL]; omega
    have hgs := gap_spaces k
    rw [hG1] at hgs
    have hgap := lex_gap (s := l) hgs (by omega)
    have hgx : (⟨#[32, 9, 13, 10, 32, 10, 32, 32, 9]⟩ : ByteArray).extract 0 k = bs G := by rw [← hG1]; exact bs_ext gapL 0 k
    have HA := Lib.hid (lex_any l w (by omega) hG)
    have ha1 := add_bs G l (by omega) (by omega)
    have ha2 := add_bs (G ++ l) G (by rw [List.length_append]; omega) (by omega)
    have hLx : ∀ W : World, Below w.heap.size w W → _ := fun (W : World) (hb : Below w.heap.size w W) => lex_any (G ++ (l ++ G)) W (by simp only [List.length_append]; omega) (hG.below hb)
    rw [hgap] at hLx
    have HB := Lib.hid hLx
    have hs1 := bs_size G
    clear hgap hgs hG1 hs hz hLx h1
    go_enter Tryd.func6, Tryd.ntmps6
    go_wp2_with (first
      | (go_at_call 8
         have C := HA.out
         with_reducible refine C.mono ?_
         clear C
         intro e w1 hz
         obtain ⟨v1, x1, rfl, hz1⟩ := words_out hz
         have HZ1 := Lib.hid hz1
         have HB1 := Lib.hid (HB.out w1 hz1.1)
         clear hz hz1)
      | (go_at_call 8
         have C := HB1.out
         with_reducible refine C.mono ?_
         clear C
         intro e w2 hz
         obtain ⟨v2, x2, rfl, hz2⟩ := words_out hz
         obtain ⟨rfl, xs, B1, B2, q1, q2⟩ := words_two HZ1.out hz2 hz2.1
         have hxx : (x1 == x1) = true := by simp
         have HS := Lib.hid (same_any B1 B2 v1 v2 xs w2 q1 q2 (by have := words_len HZ1.out q1; omega))
         have HB2 := Lib.hid (HZ1.out.1.trans (hz2.1.mono HZ1.out.1.size))
         clear hz hz2 q1 q2)
      | (go_at_call 10
         refine HS.out.mono ?_
         rintro e w3 ⟨rfl, hb3⟩
         have HB3 := Lib.hid (HB2.out.trans (hb3.mono HB2.out.size))
         have HW3 := Lib.hid (HW.out w3 (HB2.out.trans (hb3.mono HB2.out.size)))
         clear hb3 HS)
      | (go_at_call 7
         refine HW3.out.mono ?_
         rintro e w4 ⟨rfl, hb4⟩
         have HB4 := Lib.hid (HB3.out.trans (hb4.mono HB3.out.size))
         clear hb4 HW3))
    go_ret
    exact ⟨rfl, HB4.out⟩
end Go.Proofs.YtocdjjdnbcmipaaDoor.Char

/- Mathematics without a program: how long words are, and why a text has none. -/
namespace Go.Proofs.YtocdjjdnbcmipaaDoor.Char
open Go.Lib Go.RowKit

theorem form_s {e : Bool} {x : Nat} {w : Wd} {u : List UInt8} (h : Form e x w u) : w.s.length ≤ u.length := by
  cases h with
  | lit q s hq hs => simp only [List.length_cons, List.length_append]; omega
  | num u v h hz => exact Nat.le_refl _
  | mark u h => exact Nat.le_refl _
  | op u h => exact Nat.le_refl _
  | star => exact Nat.le_refl _
  | var n h => simp only [List.length_cons]; omega
  | name n h hj => exact Nat.le_refl _
theorem lexN_words : ∀ (f : Nat) (l : List UInt8) (e : Bool) (n : Nat) (ws : List Wd), lexN f l e n = .inr ws → ∀ x ∈ ws, x.s.length ≤ l.length
  | 0, _, _, _, _, h => by cases h
  | f + 1, l, e, n, ws, h => by
    unfold lexN at h
    by_cases hl : l = []
    · rw [if_pos hl] at h
      cases h
      intro x hx
      cases hx
    · rw [if_neg hl] at h
      cases hw : wdL l e with
      | none => rw [hw] at h; cases h
      | some q =>
        obtain ⟨w, k⟩ := q
        rw [hw] at h
        dsimp only at h
        by_cases h1 : n = 120
        · rw [if_pos h1] at h; cases h
        · rw [if_neg h1] at h
          cases hr : lexN f (dropS (l.drop k)) (endW w) (n + 1) with
          | inl x => rw [hr] at h; cases h
          | inr vs =>
            rw [hr] at h
            cases h
            intro x hx
            rcases List.mem_cons.1 hx with rfl | hx
            · have h2 := form_s (wd_form hw)
              rw [List.length_take] at h2
              omega
            · have h2 := lexN_words f _ _ _ _ hr x hx
              have h3 := dropS_le (l.drop k)
              rw [List.length_drop] at h3
              omega
theorem lexN_errs : ∀ (f : Nat) (l : List UInt8) (e : Bool) (n y : Nat), lexN f l e n = .inl y → y = 30 ∨ y = 3
  | 0, _, _, _, _, h => by cases h; exact .inl rfl
  | f + 1, l, e, n, y, h => by
    unfold lexN at h
    by_cases hl : l = []
    · rw [if_pos hl] at h
      cases h
    · rw [if_neg hl] at h
      cases hw : wdL l e with
      | none => rw [hw] at h; cases h; exact .inl rfl
      | some q =>
        obtain ⟨w, k⟩ := q
        rw [hw] at h
        dsimp only at h
        by_cases h1 : n = 120
        · rw [if_pos h1] at h; cases h; exact .inr rfl
        · rw [if_neg h1] at h
          cases hr : lexN f (dropS (l.drop k)) (endW w) (n + 1) with
          | inl x => rw [hr] at h; cases h; exact lexN_errs f _ _ _ _ hr
          | inr vs => rw [hr] at h; cases h
theorem lexL_words {s : List UInt8} {ws : List Wd} (h : lexL s = .inr ws) : ∀ x ∈ ws, x.s.length ≤ 400 := by
  unfold lexL at h
  split at h
  · cases h
  · split at h
    · cases h
    · intro x hx
      have h1 := lexN_words _ _ _ _ _ h x hx
      have h2 := dropS_le s
      omega
theorem lexL_errs {s : List UInt8} {y : Nat} (h : lexL s = .inl y) : y = 3 ∨ y = 10 ∨ y = 30 := by
  unfold lexL at h
  split at h
  · cases h; exact .inl rfl
  · split at h
    · cases h; exact .inr (.inl rfl)
    · rcases lexN_errs _ _ _ _ _ h with rfl | rfl
      · exact .inr (.inr rfl)
      · exact .inl rfl
theorem textW_len (w : Wd) : (textW w).length ≤ w.s.length + 2 := by
  unfold textW
  split
  · simp only [List.length_cons]; omega
  · split
    · split <;> simp only [List.length_cons, List.length_append, List.length_nil] <;> omega
    · omega
theorem joinW_snoc : ∀ (xs : List Wd) (x : Wd), joinW (xs ++ [x]) = joinW xs ++ (textW x ++ [32])
  | [], _ => rfl
  | y :: ys, x => by
    show textW y ++ (32 :: joinW (ys ++ [x])) = (textW y ++ (32 :: joinW ys)) ++ (textW x ++ [32])
    rw [joinW_snoc ys x]
    simp
theorem joinW_len : ∀ (xs : List Wd) (m : Nat), (∀ x ∈ xs, x.s.length ≤ m) → (joinW xs).length ≤ xs.length * (m + 3)
  | [], _, _ => by show 0 ≤ _; omega
  | y :: ys, m, h => by
    have h1 := joinW_len ys m fun x hx => h x (List.mem_cons_of_mem _ hx)
    have h2 := textW_len y
    have h3 := h y List.mem_cons_self
    show (textW y ++ (32 :: joinW ys)).length ≤ _
    rw [List.length_append, List.length_cons, List.length_cons, Nat.succ_mul]
    omega
theorem joinW_take {ws : List Wd} {k : Nat} (hk : k < ws.length) : joinW (ws.take (k + 1)) = joinW (ws.take k) ++ (textW ws[k] ++ [32]) := by
  rw [List.take_succ_eq_append_getElem hk, joinW_snoc]
theorem joinW_bound {ws : List Wd} (h : ∀ x ∈ ws, x.s.length ≤ 400) (hl : ws.length ≤ 120) (k : Nat) : (joinW (ws.take k)).length ≤ 50000 := by
  have h1 := joinW_len (ws.take k) 400 fun x hx => h x (List.mem_of_mem_take hx)
  have h2 : (ws.take k).length ≤ 120 := by rw [List.length_take]; omega
  have h3 : (ws.take k).length * (400 + 3) ≤ 120 * (400 + 3) := Nat.mul_le_mul_right _ h2
  omega
end Go.Proofs.YtocdjjdnbcmipaaDoor.Char

/- Mathematics without a program: a star, or one of four names, behind a text of words. -/
namespace Go.Proofs.YtocdjjdnbcmipaaDoor.Char
open Go.Lib Go.RowKit

def nmL : List (List UInt8) := [[42], [97, 110, 100], [111, 114], [109, 111, 100], [100, 105, 118]]
def kindS (e : Bool) (nm : List UInt8) : Nat := if nm = [42] then starK e else kindN e nm 0
theorem lastE_snoc : ∀ (xs : List Wd) (x : Wd) (e : Bool), lastE e (xs ++ [x]) = endW x
  | [], _, _ => rfl
  | _ :: ys, x, _ => lastE_snoc ys x _
theorem kindS_five (e : Bool) {nm : List UInt8} (h : nm ∈ nmL) : (((kindS e nm : Nat) : Int) == 5) = e := by
  unfold nmL at h
  simp only [List.mem_cons, List.not_mem_nil, or_false] at h
  cases e <;> rcases h with rfl | rfl | rfl | rfl | rfl <;> decide
theorem form_nm (e : Bool) {nm : List UInt8} (h : nm ∈ nmL) : Form e 0 ⟨kindS e nm, nm, .num 0⟩ nm := by
  unfold nmL at h
  simp only [List.mem_cons, List.not_mem_nil, or_false] at h
  rcases h with rfl | rfl | rfl | rfl | rfl
  · exact .star
  · exact .name _ (by kernel_rfl) (by cases e <;> decide)
  · exact .name _ (by kernel_rfl) (by cases e <;> decide)
  · exact .name _ (by kernel_rfl) (by cases e <;> decide)
  · exact .name _ (by kernel_rfl) (by cases e <;> decide)
theorem nm_facts {nm : List UInt8} (h : nm ∈ nmL) : nm ≠ [] ∧ nm.length ≤ 3 ∧ dropS nm = nm ∧ txD (32 :: nm) = true ∧ (∀ b ∈ (32 :: nm), b ≠ 34 ∧ b ≠ 39) ∧ nxL (32 :: nm) = 0 := by
  unfold nmL at h
  simp only [List.mem_cons, List.not_mem_nil, or_false] at h
  rcases h with rfl | rfl | rfl | rfl | rfl <;> exact ⟨by decide, by decide, by kernel_rfl, by kernel_rfl, by decide, by kernel_rfl⟩
theorem lex_stars {s nm : List UInt8} {ws : List Wd} (hL : lexL s = .inr ws) (hn : ws.length ≤ 118) (hs : s.length ≤ 380) (hm : nm ∈ nmL) : lexL (s ++ (32 :: nm)) = .inr (ws ++ [⟨kindS (lastE false ws) nm, nm, .num 0⟩]) := by
  obtain ⟨n1, n2, n3, n4, n5, n6⟩ := nm_facts hm
  unfold lexL at hL ⊢
  rw [if_neg (by omega)] at hL
  rw [if_neg (by rw [List.length_append, List.length_cons]; omega)]
  split at hL
  · cases hL
  · rename_i ht
    have ht : txD s = true := by simpa using ht
    rw [tx_more s _ ht, n4, if_neg (by decide), lex_app (sp32 nm) n5 n6 _ s (Nat.le_refl _), hL]
    show appW ws (lexG (dropS (32 :: nm)) (lastE false ws) (0 + ws.length)) = _
    have hw := form_wd (form_nm (lastE false ws) hm) (g := []) (.inl rfl) rfl
    rw [List.append_nil] at hw
    rw [drop32, n3, lexG_some n1 hw (by omega), List.drop_length]
    show appW ws (appW [_] (lexG (dropS []) _ _)) = _
    rw [show dropS [] = [] from rfl, lexG_nil]
    rfl
theorem form_mark {e : Bool} {x : Nat} {w : Wd} {u : List UInt8} (h : Form e x w u) (hk : w.k = 1) : w.s ∈ marksL := by
  cases h with
  | lit q s hq hs => cases hk
  | num u v h hz => cases hk
  | mark u h => exact h
  | op u h => cases hk
  | star => cases e <;> cases hk
  | var n h => cases hk
  | name n h hj => exact absurd hk (kindN_ne e _ _).2.2
theorem lexN_marks : ∀ (f : Nat) (l : List UInt8) (e : Bool) (n : Nat) (ws : List Wd), lexN f l e n = .inr ws → ∀ x ∈ ws, x.k = 1 → x.s ∈ marksL
  | 0, _, _, _, _, h => by cases h
  | f + 1, l, e, n, ws, h => by
    unfold lexN at h
    by_cases hl : l = []
    · rw [if_pos hl] at h
      cases h
      intro x hx
      cases hx
    · rw [if_neg hl] at h
      cases hw : wdL l e with
      | none => rw [hw] at h; cases h
      | some q =>
        obtain ⟨w, k⟩ := q
        rw [hw] at h
        dsimp only at h
        by_cases h1 : n = 120
        · rw [if_pos h1] at h; cases h
        · rw [if_neg h1] at h
          cases hr : lexN f (dropS (l.drop k)) (endW w) (n + 1) with
          | inl x => rw [hr] at h; cases h
          | inr vs =>
            rw [hr] at h
            cases h
            intro x hx hk
            rcases List.mem_cons.1 hx with rfl | hx
            · exact form_mark (wd_form hw) hk
            · exact lexN_marks f _ _ _ _ hr x hx hk
theorem lexL_marks {s : List UInt8} {ws : List Wd} (h : lexL s = .inr ws) : ∀ x ∈ ws, x.k = 1 → x.s ∈ marksL := by
  unfold lexL at h
  split at h
  · cases h
  · split at h
    · cases h
    · exact lexN_marks _ _ _ _ _ h
end Go.Proofs.YtocdjjdnbcmipaaDoor.Char
