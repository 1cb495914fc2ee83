/- WordsW LexW SpacesM RefLex Same12 Laws12 LawWords Witness -/
import Derived.Test.YtbemijbgbjcoeaaDoorPk12
import Derived.Test.YtbemijbgbjcoeaaDoorPk05
import Derived.Deep.LoopGhost
import Derived.Test.YtbemijbgbjcoeaaDoorPk04
import Derived.Test.YtbemijbgbjcoeaaDoorCards
import Derived.Test.YtbemijbgbjcoeaaDoorTie
import Derived.Test.YtbemijbgbjcoeaaDoorPk03
import Derived.PinnedBridge
import Derived.Lay
import Derived.Lib.LaidIn
import Derived.Lib.LaidU8T
import Derived.Lib.LaidTab
import Derived.Deep.DeepHandedRow
import Derived.Deep.DeepWitnessRowRef
import Derived.ProofKit
import Derived.OpenShut
import Derived.JoinedCond
import Derived.SizedLaws
import Derived.Shelf.Vars
import Derived.LaidLaws
/- The walk of the lexer's words. -/
namespace Go.Proofs.YtbemijbgbjcoeaaDoor.Char
open Go.RowKit Go.Lib
open Go.Proofs.YtbemijbgbjcoeaaDoor.Fig (outT outV)


/-- the three boxes, made -/
theorem env_new (w w1 : World) (l : List UInt8) (hb : Below w.heap.size w w1) : Env w.heap.size w1.heap.size w (((w1.alloc (.cells #[.string (bs l)] 9)).alloc (.cells #[.bool false] 4)).alloc (fnB w1.heap.size)) l false := by
  obtain ⟨A, hA⟩ : ∃ A, A = w1.alloc (.cells #[.string (bs l)] 9) := ⟨_, rfl⟩
  have a1 : A.heap[w1.heap.size]? = some (.cells #[.string (bs l)] 9 (0, 0)) := by rw [hA]; exact World.alloc_heap_new w1 _
  have a2 : A.heap.size = w1.heap.size + 1 := by rw [hA]; exact World.size_alloc _ _
  have a3 : Below w1.heap.size w1 A := by rw [hA]; exact below_box _
  rw [← hA]
  clear hA
  obtain ⟨B, hB⟩ : ∃ B, B = A.alloc (.cells #[.bool false] 4) := ⟨_, rfl⟩
  have b1 : B.heap[A.heap.size]? = some (.cells #[.bool false] 4 (0, 0)) := by rw [hB]; exact World.alloc_heap_new A _
  have b2 : B.heap.size = A.heap.size + 1 := by rw [hB]; exact World.size_alloc _ _
  have b3 : Below A.heap.size A B := by rw [hB]; exact below_box _
  rw [← hB]
  clear hB
  obtain ⟨C, hC⟩ : ∃ C, C = B.alloc (fnB w1.heap.size) := ⟨_, rfl⟩
  have c1 : C.heap[B.heap.size]? = some (fnB w1.heap.size) := by rw [hC]; exact World.alloc_heap_new B _
  have c3 : Below B.heap.size B C := by rw [hC]; exact below_box _
  rw [← hC]
  clear hC
  have d1 : C.heap[w1.heap.size]? = some (.cells #[.string (bs l)] 9 (0, 0)) := (c3.block _ (by omega)).trans ((b3.block _ (by omega)).trans a1)
  have d2 : C.heap[w1.heap.size + 1]? = some (.cells #[.bool false] 4 (0, 0)) := (c3.block _ (by omega)).trans (by rw [← a2]; exact b1)
  refine ⟨hb.trans ((a3.trans ((b3.mono (by omega)).trans (c3.mono (by omega)))).mono hb.size), hb.size, ?_, ?_, ?_, ?_, ?_⟩
  · simp only [World.cell?, d1]; rfl
  · simp only [World.frozen?, d1]; rfl
  · simp only [World.cell?, d2]; rfl
  · simp only [World.frozen?, d2]; rfl
  · rw [show w1.heap.size + 1 + 1 = B.heap.size by omega]; exact c1

theorem ownsWd_low {B B' : Nat} {w : World} {v : Value} {xs : List Wd} (h : OwnsWd B w v xs) (hb : B' ≤ B) : OwnsWd B' w v xs := by
  obtain ⟨h1, h2⟩ := h
  refine ⟨h1, ?_⟩
  rcases h2 with h0 | ⟨g, cap, cur, e1, e2, hg, e3⟩
  · exact .inl h0
  · exact .inr ⟨g, cap, cur, e1, Nat.le_trans hb e2, hg, e3⟩
theorem owns_set {L : Nat} {w : World} {v : Value} {xs : List Wd} (h : OwnsWd (L + 3) w v xs) (a b : Value) : OwnsWd (L + 3) ((w.setCell ⟨L, 0, none⟩ a).setCell ⟨L + 1, 0, none⟩ b) v xs :=
  h.keep fun g hg => by
    have := (h.blk hg).1
    rw [heap_set_ne (a := ⟨L + 1, 0, none⟩) (by show g ≠ L + 1; omega), heap_set_ne (a := ⟨L, 0, none⟩) (by show g ≠ L; omega)]
theorem words_step {l : List UInt8} {e : Bool} {x : Wd} {n : Nat} {xs : List Wd} {R : Nat ⊕ List Wd} (hl : l ≠ []) (h : wdL l e = some (x, n)) (h1 : ¬ xs.length = 120) (hr : appW xs (lexG l e xs.length) = R) : appW (xs ++ [x]) (lexG (dropS (l.drop n)) (endW x) (xs ++ [x]).length) = R := by
  rw [lexG_some hl h h1, appW_app] at hr
  rw [List.length_append]
  exact hr
theorem words_tx {l : List UInt8} {e : Bool} {x : Wd} {n : Nat} (h : wdL l e = some (x, n)) (ht : txD l = true) : txD (dropS (l.drop n)) = true := by
  rw [← take_app (l := l) n] at ht
  exact tx_dropS (form_rest (wd_form h) ht)
set_option maxHeartbeats 8000000 in
theorem words_any (s : List UInt8) (w : World) (hl : s.length ≤ 400) (ht : txD (dropS s) = true) (hG : Gl w) : Calls Tryd.prog 14 #[.string (bs s)] w (WordsPost w (lexG (dropS s) false 0)) := by
  have HS := Lib.hid (behindS_any s w)
  obtain ⟨R, hR⟩ : ∃ R, lexG (dropS s) false 0 = R := ⟨_, rfl⟩
  rw [hR]
  have HR := Lib.hid hR
  have HG := Lib.hid hG
  have HD := Lib.hid (Nat.le_trans (dropS_le s) hl)
  have HT := Lib.hid ht
  clear hR hG hl ht
  generalize dropS s = l0 at *
  go_enter Tryd.func14, Tryd.ntmps14
  go_wp2
  go_step3
  go_wp2_with (first
    | (go_at_call 22
       refine HS.out.mono ?_
       rintro e w1 ⟨rfl, hb1⟩
       have HE1 := Lib.hid (env_new w w1 l0 hb1)
       clear hb1 HS))
  obtain ⟨W4, hW4⟩ : ∃ W4, W4 = (((w1.alloc (.cells #[.string (bs l0)] 9)).alloc (.cells #[.bool false] 4)).alloc (fnB w1.heap.size)) := ⟨_, rfl⟩
  have HE4 := HE1
  rw [← hW4] at HE4
  simp only [fnB, fnK] at hW4
  rw [← hW4]
  clear hW4 HE1
  generalize w1.heap.size = L at *
  clear w1
  go_step3
  go_wp2
  go_loopg [7] l0.length (fun g s7 wr => ∃ xs l e, l.length = g ∧ Hid (Env w.heap.size L w wr l e ∧ OwnsWd (L + 3) wr s7 xs ∧ appW xs (lexG l e xs.length) = R ∧ l.length ≤ 400 ∧ txD l = true ∧ xs.length ≤ 120))
  case atStart => exact ⟨[], l0, false, rfl, Lib.hid ⟨HE4.out, OwnsWd.nil _ _, by rw [appW_nil]; exact HR.out, HD.out, HT.out, Nat.zero_le _⟩⟩
  case round =>
    obtain ⟨xs, l, e, hg, HQ⟩ := hrel
    have hll := HQ.out.1.ll
    have hlf := HQ.out.1.lf
    have hel := HQ.out.1.el
    have hef := HQ.out.1.ef
    clear HE4 HR HD HT
    cases l with
    | nil =>
      have hne : ((bs []).toList == []) = true := by rw [bs_tl]; rfl
      go_wp2_with fail
      try rw [Exit.noGoto_ret]
      go_ret2
      refine ⟨HQ.out.1.hb, ?_⟩
      have hr := HQ.out.2.2.1
      rw [lexG_nil] at hr
      rw [← hr]
      exact ⟨_, rfl, by rw [List.append_nil]; exact ownsWd_low HQ.out.2.1 (Nat.le_trans HQ.out.1.hL (by omega))⟩
    | cons c t =>
      have hne : ((bs (c :: t)).toList == []) = false := by rw [bs_tl]; rfl
      obtain ⟨f0, f1, f2, f3, f4, f5, f6⟩ := HQ.out.1.fns
      go_wp2_with fail
      clear hll hlf hel hef f0 f1 f2 f3 f4 f5 f6 hne
      have HRR := Lib.hid HQ.out.2.2
      have HGK := Lib.hid hg
      have HW0 := Lib.hid (And.intro HQ.out.1 HQ.out.2.1)
      clear HQ hg
      go_loopg [7, 25] 7 (fun g s7 s25 wi => ∃ k : Nat, s25 = .int .i64 (k : Int) ∧ k + g = 7 ∧ Hid (Env w.heap.size L w wi (c :: t) e ∧ OwnsWd (L + 3) wi s7 xs ∧ orAt k (c :: t) e = wdL (c :: t) e))
      case atStart => exact ⟨0, rfl, rfl, Lib.hid ⟨HW0.out.1, HW0.out.2, rfl⟩⟩
      case round =>
        obtain ⟨k, rfl, hkg, HI⟩ := hrel
        clear HW0
        by_cases hk : k < 7
        · have hlt : decide ((k : Int) < 7) = true := decide_eq_true (by omega)
          obtain ⟨g2, rfl⟩ : ∃ g2, gk = g2 + 1 := ⟨gk - 1, by omega⟩
          obtain ⟨fg, cs, hfn, hent, hcall⟩ := kd_call k hk L (c :: t) e wr HRR.out.2.1 (by simp) HRR.out.2.2.1 (HG.out.below HI.out.1.hb) HI.out.1.ll HI.out.1.el
          have hidx := index_fn L k hk
          rw [hfn] at hidx
          have hst := orAt_step k hk (c :: t) e
          rw [HI.out.2.2] at hst
          obtain ⟨o, j, hu⟩ := HI.out.2.1.form
          subst hu
          cases hkd : kdW k (c :: t) e with
          | none =>
            rw [hkd] at hcall hst
            rw [orW_none] at hst
            have HC := Lib.hid hcall
            have HST := Lib.hid hst
            have HKG := Lib.hid hkg
            have HK := Lib.hid hk
            have hz0 : (0 : Int) ≤ (k : Int) := by omega
            have hz1 : (k : Int) < 7 := by omega
            clear hcall hst hkg hkd hfn hk
            go_wp2_with (first
              | (go_at_fn fg
                 refine HC.out.mono ?_
                 intro e' w5 hz
                 obtain ⟨x, n, hx, rfl, hb5⟩ := wdPost_out hz
                 cases hx
                 have HB5 := Lib.hid hb5
                 clear hb5 hz HC))
            go_roundg g2
            case measure => omega
            case rel => exact ⟨k + 1, by have := HK.out; go_num, by have := HKG.out; omega, Lib.hid ⟨HI.out.1.below (HB5.out.trans ((below_box _).mono HB5.out.size)), HI.out.2.1.below (HB5.out.trans ((below_box _).mono HB5.out.size)), HST.out.symm⟩⟩
          | some q =>
            obtain ⟨x, n⟩ := q
            rw [hkd] at hcall hst
            rw [orW_some] at hst
            have hnl := wdL_len hst
            have hn0 : ((n : Int) == 0) = false := by rw [beq_eq_false_iff_ne]; omega
            have HC := Lib.hid hcall
            have HST := Lib.hid hst
            have HNL := Lib.hid hnl
            clear hcall hst hkg hkd hfn hk hnl
            by_cases h120 : xs.length = 120
            · have hx120 : ((xs.length : Int) == 120) = true := by rw [h120]; rfl
              have HXL := Lib.hid h120
              clear h120
              go_wp2_with (first
                | (go_at_fn fg
                   refine HC.out.mono ?_
                   intro e' w5 hz
                   obtain ⟨x', n', hx, rfl, hb5⟩ := wdPost_out hz
                   cases hx
                   have HB5 := Lib.hid hb5
                   clear hb5 hz HC))
              try rw [Exit.noGoto_ret]
              go_ret2
              refine ⟨(HI.out.1.below (HB5.out.trans ((below_box _).mono HB5.out.size))).hb, ?_⟩
              have hr := HRR.out.1
              rw [HXL.out, lexG_full (by simp) HST.out] at hr
              rw [← hr]
              rfl
            · have hx120 : ((xs.length : Int) == 120) = false := by rw [beq_eq_false_iff_ne]; omega
              have HXL := Lib.hid h120
              have hxl : xs.length ≤ 1000 := by have := HRR.out.2.2.2; omega
              have hsl := slice_from (c :: t) n HNL.out.2
              clear h120
              go_upto_region 13 with (first
                | (go_at_fn fg
                   refine HC.out.mono ?_
                   intro e' w5 hz
                   obtain ⟨x', n', hx, rfl, hb5⟩ := wdPost_out hz
                   cases hx
                   have HO6 := Lib.hid ((HI.out.2.1.below hb5).below (below_box (.cells #[.int .i64 (x.k : Int), .string (bs x.s), .int .i64 (outT x.n), .int .i64 (outV x.n)] 47)))
                   have HE6 := Lib.hid ((HI.out.1.below hb5).below (below_box (.cells #[.int .i64 (x.k : Int), .string (bs x.s), .int .i64 (outT x.n), .int .i64 (outV x.n)] 47)))
                   have hkx : (w5.alloc (.cells #[.int .i64 (x.k : Int), .string (bs x.s), .int .i64 (outT x.n), .int .i64 (outV x.n)] 47)).heap[w5.heap.size]? = some (wdB x) := World.alloc_heap_new w5 _
                   have HKX := Lib.hid hkx
                   have HB5 := Lib.hid hb5
                   have hs5 := World.size_alloc w5 (.cells #[.int .i64 (x.k : Int), .string (bs x.s), .int .i64 (outT x.n), .int .i64 (outV x.n)] 47)
                   obtain ⟨⟨x0, x1, x2, x3⟩, _⟩ := wd_blk hkx
                   have HS5 := Lib.hid hs5
                   clear hb5 hz HC hkx hs5)
                | (at_builtin
                   refine wpList_pushWd rfl (.tmp 38) (.tmp 40) rfl x HO6.out rfl (by simp [Act.eval]) (HE6.out.lt) (by omega) ?_
                   intro u7' w7 q1 q2 q3 q4
                   have hdr : Below w7.heap.size w7 w7.drew := (Below.refl _ _).drew
                   have HE7 := Lib.hid ((HE6.out.low q2).below hdr)
                   have HO7 := Lib.hid (q1.below hdr)
                   have hkx : w7.drew.heap[w5.heap.size]? = some (wdB x) := (q3 _ (by have := HS5.out; omega) (fun h => by have := (HI.out.2.1.below HB5.out).blk h.symm; omega)).trans HKX.out
                   have HKX := Lib.hid hkx
                   have HLX := Lib.hid (Array.getElem?_eq_some_iff.1 hkx).1
                   clear x0 x1 x2 x3
                   obtain ⟨⟨x0, x1, x2, x3⟩, _⟩ := wd_blk hkx
                   have l0 := HE7.out.ll
                   clear hdr hkx q1 q2 q3 q4))
              have hs7 : w7.drew.heap.size = w7.heap.size := rfl
              have HS7 := Lib.hid hs7
              clear hs7
              go_region_with (first
                | (go_at_call 22
                   refine (behindS_any ((c :: t).drop n) _).mono ?_
                   rintro e' w8 ⟨rfl, hb8⟩
                   have HE8 := Lib.hid (HE7.out.below hb8)
                   have HO8 := Lib.hid (HO7.out.below hb8)
                   have hkx := (hb8.block _ HLX.out).trans HKX.out
                   obtain ⟨⟨z0, z1, z2, z3⟩, _⟩ := wd_blk hkx
                   clear hb8 hkx)
                | (go_at_call 38
                   refine (ends_any x _).mono ?_
                   rintro e' w9 ⟨rfl, hb9⟩
                   have HE9 := Lib.hid (HE8.out.below hb9)
                   have HO9 := Lib.hid (HO8.out.below hb9)
                   have s0 := HE9.out.ll
                   have s1 := HE9.out.lf
                   have s2 := HE9.out.el
                   have s3 := HE9.out.ef
                   clear hb9))
              all_goals
                go_wp2_with fail
                go_roundg (dropS ((c :: t).drop n)).length
                case measure =>
                  have h1 := dropS_le ((c :: t).drop n)
                  have h2 := HNL.out
                  have h3 := HGK.out
                  rw [List.length_drop] at h1
                  omega
                case rel => exact ⟨xs ++ [x], dropS ((c :: t).drop n), endW x, rfl, Lib.hid ⟨HE9.out.set _ _, owns_set HO9.out _ _, words_step (by simp) HST.out HXL.out HRR.out.1, Nat.le_trans (dropS_le _) (by rw [List.length_drop]; have := HRR.out.2.1; omega), words_tx HST.out HRR.out.2.2.1, by rw [List.length_append]; have := HRR.out.2.2.2; have := HXL.out; simp; omega⟩⟩
        · have hlt : decide ((k : Int) < 7) = false := decide_eq_false (by omega)
          obtain rfl : k = 7 := by omega
          clear hkg hk
          go_wp2_with fail
          try rw [Exit.noGoto_ret]
          go_ret2
          refine ⟨HI.out.1.hb, ?_⟩
          have hr := HRR.out.1
          have hw : wdL (c :: t) e = none := HI.out.2.2.symm
          rw [lexG_none _ (by simp) hw] at hr
          rw [← hr]
          rfl
end Go.Proofs.YtbemijbgbjcoeaaDoor.Char

/- The walk of the lexer itself. -/
namespace Go.Proofs.YtbemijbgbjcoeaaDoor.Char
open Go.RowKit Go.Lib

/-- a slice and a reason -/
def WordsAt (w : World) (R : Nat ⊕ List Wd) (v : Value) (x : Int) (w' : World) : Prop := Below w.heap.size w w' ∧ match R with
  | .inl y => v = .slice none 0 0 ∧ x = (y : Int)
  | .inr ws => x = 0 ∧ OwnsWd w.heap.size w' v ws
theorem words_out {w : World} {R : Nat ⊕ List Wd} {e : Ending} {w' : World} (h : WordsPost w R e w') : ∃ v x, e = .returned (.tuple #[v, .int .i64 x]) ∧ WordsAt w R v x w' := by
  obtain ⟨h1, h2⟩ := h
  cases R with
  | inl y => exact ⟨_, _, h2, h1, rfl, rfl⟩
  | inr ws => obtain ⟨v, h3, h4⟩ := h2; exact ⟨v, _, h3, h1, rfl, h4⟩
theorem words_in {w w1 w2 : World} {R : Nat ⊕ List Wd} {v : Value} {x : Int} (hb : Below w.heap.size w w1) (h : WordsAt w1 R v x w2) : WordsPost w R (.returned (.tuple #[v, .int .i64 x])) w2 := by
  obtain ⟨h1, h2⟩ := h
  refine ⟨hb.trans (h1.mono hb.size), ?_⟩
  cases R with
  | inl y => obtain ⟨rfl, rfl⟩ := h2; rfl
  | inr ws => obtain ⟨rfl, h4⟩ := h2; exact ⟨v, rfl, ownsWd_low h4 hb.size⟩
set_option maxHeartbeats 2000000 in
theorem lex_any (s : List UInt8) (w : World) (hl : s.length ≤ 140737488351232) (hG : Gl w) : Calls Tryd.prog 8 #[.string (bs s)] w (WordsPost w (lexL s)) := by
  have hsz := bs_size s
  have hTx := text_any (bs s) w (by omega) hG.1
  rw [bs_list] at hTx
  have HT := Lib.hid hTx
  have hv : lexL s = if 400 < s.length then .inl 3 else if txD s = false then .inl 10 else lexG (dropS s) false 0 := rfl
  clear hTx hl
  by_cases h1 : 400 < s.length
  · have k1 : decide ((400 : Int) < (s.length : Int)) = true := decide_eq_true (by omega)
    have hr : lexL s = .inl 3 := by rw [hv, if_pos h1]
    rw [hr]
    clear hv h1 hr
    go_enter Tryd.func8, Tryd.ntmps8
    go_wp2_with fail
    go_ret2
    exact ⟨Below.refl _ _, rfl⟩
  · have k1 : decide ((400 : Int) < (s.length : Int)) = false := decide_eq_false (by omega)
    cases ht : txD s with
    | false =>
      have hr : lexL s = .inl 10 := by rw [hv, if_neg h1, if_pos ht]
      rw [hr]
      rw [ht] at HT
      clear hv h1 hr ht
      go_enter Tryd.func8, Tryd.ntmps8
      go_wp2_with (first
        | (go_at_call 13
           refine HT.out.mono ?_
           rintro e w1 ⟨rfl, hb1⟩
           have HB1 := Lib.hid hb1
           clear hb1 HT))
      go_ret2
      exact ⟨HB1.out, rfl⟩
    | true =>
      have hr : lexL s = lexG (dropS s) false 0 := by rw [hv, if_neg h1, if_neg (by rw [ht]; decide)]
      rw [hr]
      rw [ht] at HT
      have HW := Lib.hid fun (W : World) (hb : Below w.heap.size w W) => words_any s W (by omega) (tx_dropS ht) (hG.below hb)
      clear hv h1 hr ht
      generalize lexG (dropS s) false 0 = R at *
      go_enter Tryd.func8, Tryd.ntmps8
      go_wp2_with (first
        | (go_at_call 13
           refine HT.out.mono ?_
           rintro e w1 ⟨rfl, hb1⟩
           have HB1 := Lib.hid hb1
           have HW1 := Lib.hid (HW.out w1 hb1)
           clear hb1 HT)
        | (go_at_call 14
           refine HW1.out.mono ?_
           intro e w2 hz
           obtain ⟨v, x, rfl, hz2⟩ := words_out hz
           have HZ := Lib.hid hz2
           clear hz hz2))
      go_ret2
      exact words_in HB1.out HZ.out
end Go.Proofs.YtbemijbgbjcoeaaDoor.Char

/- The words of a text in memory, twice alike; how many they are. -/
namespace Go.Proofs.YtbemijbgbjcoeaaDoor.Char
open Go.RowKit Go.Lib

/-- two answers that are one -/
theorem words_two {w w1 w2 w3 : World} {R : Nat ⊕ List Wd} {v1 v2 : Value} {x1 x2 : Int} (h1 : WordsAt w R v1 x1 w1) (h2 : WordsAt w2 R v2 x2 w3) (hb : Below w1.heap.size w1 w3) : x1 = x2 ∧ ∃ xs B1 B2, OwnsWd B1 w3 v1 xs ∧ OwnsWd B2 w3 v2 xs := by
  obtain ⟨_, h1⟩ := h1
  obtain ⟨_, h2⟩ := h2
  cases R with
  | inl y =>
    obtain ⟨rfl, rfl⟩ := h1
    obtain ⟨rfl, rfl⟩ := h2
    exact ⟨rfl, [], 0, 0, OwnsWd.nil _ _, OwnsWd.nil _ _⟩
  | inr ws =>
    obtain ⟨rfl, h1⟩ := h1
    obtain ⟨rfl, h2⟩ := h2
    exact ⟨rfl, ws, _, _, h1.below hb, h2⟩
theorem lexG_len : ∀ (f : Nat) (l : List UInt8) (e : Bool) (n : Nat) (ws : List Wd), n ≤ 120 → lexN f l e n = .inr ws → n + ws.length ≤ 120
  | 0, _, _, _, _, _, h => by cases h
  | f + 1, l, e, n, ws, hn, h => by
    unfold lexN at h
    by_cases hl : l = []
    · rw [if_pos hl] at h
      cases h
      exact hn
    · rw [if_neg hl] at h
      cases hw : wdL l e with
      | none => rw [hw] at h; cases h
      | some q =>
        obtain ⟨w, k⟩ := q
        rw [hw] at h
        dsimp only at h
        by_cases h1 : n = 120
        · rw [if_pos h1] at h; cases h
        · rw [if_neg h1] at h
          cases hr : lexN f (dropS (l.drop k)) (endW w) (n + 1) with
          | inl x => rw [hr] at h; cases h
          | inr vs =>
            rw [hr] at h
            cases h
            have := lexG_len f _ _ _ _ (by omega) hr
            rw [List.length_cons]
            omega
theorem lexL_len {s : List UInt8} {ws : List Wd} (h : lexL s = .inr ws) : ws.length ≤ 120 := by
  unfold lexL at h
  split at h
  · cases h
  · split at h
    · cases h
    · have := lexG_len _ _ _ _ _ (Nat.zero_le _) h
      omega
theorem words_len {w w1 : World} {s : List UInt8} {v : Value} {x : Int} (h : WordsAt w (lexL s) v x w1) {B : Nat} {W : World} {xs : List Wd} (ho : OwnsWd B W v xs) : xs.length ≤ 120 := by
  obtain ⟨_, h⟩ := h
  obtain ⟨o, j, rfl⟩ := ho.form
  cases hr : lexL s with
  | inl y => rw [hr] at h; have := h.1; injection this with _ h2 _; omega
  | inr ws =>
    rw [hr] at h
    obtain ⟨o2, j2, h3⟩ := h.2.form
    injection h3 with _ h4 _
    have := lexL_len hr
    omega
end Go.Proofs.YtbemijbgbjcoeaaDoor.Char

/- The walk of the document's own Lex. -/
namespace Go.Proofs.YtbemijbgbjcoeaaDoor.Char
open Go.RowKit Go.Lib
open Go.Proofs.YtbemijbgbjcoeaaDoor.Fig (outT outV digB)

theorem one12_any (l : List UInt8) (p B : Nat) (v : Value) (xs : List Wd) (w : World) (hl : l.length ≤ 450) (hp : p < l.length) (ho : OwnsWd B w v xs) (hxl : xs.length ≤ 1000) :
    Calls Tryd.prog 17 #[.string (bs l), .int .i64 (p : Int), v] w (OneP w p (wdL (l.drop p) (lastE false xs))) := by
  have hd := drop_cons l p hp
  obtain ⟨hlt', hg⟩ := byte_at l p hp
  by_cases hq : l.getD p 0 = 34 ∨ l.getD p 0 = 39
  · exact oneX_quote l p v w _ _ _ hl hp hd rfl hlt' hg hq
  · by_cases hdg : digB (l.getD p 0) = true
    · exact oneX_digit l p v w _ _ _ hl hp hd hlt' hg hdg
    · have hdg : digB (l.getD p 0) = false := by simpa using hdg
      by_cases hdot : l.getD p 0 = 46 ∧ 0 < dgs (l.drop (p + 1))
      · obtain ⟨h46, hpos⟩ := hdot
        rw [h46] at hd hg
        have D1 : ∀ W : World, _ := fun (W : World) => digits_any l p W (by omega) (by omega)
        have hz : dgs (l.drop p) = 0 := by rw [hd]; exact dgs_none _ (by decide)
        rw [hz, Nat.add_zero] at D1
        have D2 : ∀ W : World, _ := fun (W : World) => digits_any l (p + 1) W (by omega) (by omega)
        obtain ⟨t1, ht1⟩ : ∃ t1, p + 1 + dgs (l.drop (p + 1)) = t1 := ⟨_, rfl⟩
        rw [ht1] at D2
        have hsz : sizN (l.drop p) = 1 + dgs (l.drop (p + 1)) := by
          unfold sizN
          rw [hz, Nat.zero_add, Nat.zero_add, List.drop_zero, List.drop_drop]
          rw [if_pos (show ([46] : List UInt8).isPrefixOf (l.drop p) = true by rw [hd]; rfl)]
        have hle := dgs_le (l.drop (p + 1))
        rw [List.length_drop] at hle
        have hs := slice_mid6 l p t1 (by omega) (by omega)
        rw [show t1 - p = sizN (l.drop p) by omega] at hs
        rw [show wdL (l.drop p) (lastE false xs) = numW (l.drop p) by rw [hd]; exact dot_wd _ _ hpos]
        exact oneN_dot l p 46 v w _ _ _ (bs_size l) hl hlt' hg (by omega) rfl rfl t1 (by omega) (Lib.hid D1) (Lib.hid D2) rfl rfl rfl (by rw [List.length_take, List.length_drop]; omega) (by omega) (by omega) hs
      · exact oneX_rest l p B v xs w _ _ hl hp hd rfl hlt' hg ho hxl ⟨fun h => hq (.inl h), fun h => hq (.inr h)⟩ hdg fun h => Nat.eq_zero_of_not_pos fun h2 => hdot ⟨h, h2⟩
set_option maxHeartbeats 8000000 in
theorem refLex_any (l : List UInt8) (w : World) (hl : l.length ≤ 1000) : Calls Tryd.prog 9 #[.string (bs l)] w (WordsPost w (lexL l)) := by
  have hsz := bs_size l
  have hTx := refText_any (bs l) w (by omega)
  rw [bs_list] at hTx
  have HT := Lib.hid hTx
  have hv : lexL l = if 400 < l.length then .inl 3 else if txD l = false then .inl 10 else lexG (dropS l) false 0 := rfl
  clear hTx
  by_cases h1 : 400 < l.length
  · have k1 : decide ((400 : Int) < (l.length : Int)) = true := decide_eq_true (by omega)
    have hr : lexL l = .inl 3 := by rw [hv, if_pos h1]
    rw [hr]
    clear hv h1 hr
    go_enter Tryd.func9, Tryd.ntmps9
    go_wp2_with fail
    go_ret2
    exact ⟨Below.refl _ _, rfl⟩
  · have k1 : decide ((400 : Int) < (l.length : Int)) = false := decide_eq_false (by omega)
    cases ht : txD l with
    | false =>
      have hr : lexL l = .inl 10 := by rw [hv, if_neg h1, if_pos ht]
      rw [hr]
      rw [ht] at HT
      clear hv h1 hr ht
      go_enter Tryd.func9, Tryd.ntmps9
      go_wp2_with (first
        | (go_at_call 15
           refine HT.out.mono ?_
           rintro e w1 ⟨rfl, hb1⟩
           have HB1 := Lib.hid hb1
           clear hb1 HT))
      go_ret2
      exact ⟨HB1.out, rfl⟩
    | true =>
      have hr : lexL l = lexG (dropS l) false 0 := by rw [hv, if_neg h1, if_neg (by rw [ht]; decide)]
      rw [hr]
      rw [ht] at HT
      obtain ⟨R, hR⟩ : ∃ R, lexG (dropS l) false 0 = R := ⟨_, rfl⟩
      rw [hR]
      have HR := Lib.hid hR
      have hl4 : l.length ≤ 400 := by omega
      have HS := Lib.hid fun (W : World) => spaces_any l 0 W (by omega) (by omega)
      rw [Nat.zero_add, List.drop_zero] at HS
      have HSP := Lib.hid (spc_le l)
      clear hv h1 hr ht hR
      go_enter Tryd.func9, Tryd.ntmps9
      go_wp2_with (first
        | (go_at_call 15
           refine HT.out.mono ?_
           rintro e w1 ⟨rfl, hb1⟩
           have HB1 := Lib.hid hb1
           clear hb1 HT)
        | (go_at_call 16
           refine (HS.out _).mono ?_
           rintro e w2 ⟨rfl, rfl⟩))
      go_loopg [4, 5] (l.length - spcL l) (fun g s4 s5 wr => ∃ (xs : List Wd) (k : Nat), s5 = .int .i64 (k : Int) ∧ k + g = l.length ∧ Hid (Below w.heap.size w wr ∧ OwnsWd w.heap.size wr s4 xs ∧ appW xs (lexG (l.drop k) (lastE false xs) xs.length) = R ∧ xs.length ≤ 120))
      case atStart => exact ⟨[], spcL l, rfl, by have := HSP.out; omega, Lib.hid ⟨HB1.out, OwnsWd.nil _ _, by rw [appW_nil]; exact HR.out, Nat.zero_le _⟩⟩
      case round =>
        obtain ⟨xs, k, rfl, hk, HQ⟩ := hrel
        by_cases hend : k = l.length
        · have k2 : decide ((k : Int) < (l.length : Int)) = false := decide_eq_false (by omega)
          have k3 : decide (k < l.length) = false := decide_eq_false (by omega)
          have hr : R = .inr xs := by
            have h := HQ.out.2.2.1
            rw [hend, List.drop_length, lexG_nil] at h
            rw [← h]
            show Sum.inr (xs ++ []) = _
            rw [List.append_nil]
          have HRR := Lib.hid hr
          have HX := Lib.hid (And.intro HQ.out.1 HQ.out.2.1)
          clear hr HQ hend hk
          go_wp2_with fail
          go_ret2
          refine ⟨HX.out.1, ?_⟩
          rw [HRR.out]
          exact ⟨_, rfl, HX.out.2⟩
        · have hlt : k < l.length := by omega
          have k2 : decide ((k : Int) < (l.length : Int)) = true := decide_eq_true (by omega)
          have k3 : decide (k < l.length) = true := decide_eq_true hlt
          have hne : l.drop k ≠ [] := by
            intro h
            have := congrArg List.length h
            rw [List.length_drop] at this
            simp at this
            omega
          have hO := one12_any l k w.heap.size u4 xs wr (by omega) hlt HQ.out.2.1 (by have := HQ.out.2.2.2; omega)
          obtain ⟨o, j, hu⟩ := HQ.out.2.1.form
          subst hu
          have hxl := HQ.out.2.2.2
          cases hw : wdL (l.drop k) (lastE false xs) with
          | none =>
            rw [hw] at hO
            have HO := Lib.hid hO
            have hr : R = .inl 30 := by rw [← HQ.out.2.2.1, lexG_none _ hne hw]; rfl
            have HRR := Lib.hid hr
            clear hr hO hw hne hend hlt
            go_wp2_with (first
              | (go_at_call 17
                 refine HO.out.mono ?_
                 rintro e w5 ⟨x, m, ⟨rfl, hb5⟩, rfl⟩
                 unfold wdV
                 have HB5 := Lib.hid (HQ.out.1.trans (hb5.mono HQ.out.1.size))
                 clear hb5 HO))
            go_ret2
            refine ⟨HB5.out.alloc HB5.out.size _, ?_⟩
            rw [HRR.out]
            rfl
          | some q =>
            obtain ⟨x0, n⟩ := q
            rw [hw] at hO
            have HO := Lib.hid hO
            have hnl := wdL_len hw
            rw [List.length_drop] at hnl
            have hpn : ((((k + n : Nat) : Int)) == 0) = false := by rw [beq_eq_false_iff_ne]; omega
            have HW := Lib.hid hw
            have HNE := Lib.hid hne
            have HK := Lib.hid hk
            by_cases h120 : xs.length = 120
            · have hr : R = .inl 3 := by
                have h := HQ.out.2.2.1
                rw [h120, lexG_full hne hw] at h
                rw [← h]
                rfl
              have HRR := Lib.hid hr
              have c120 : decide ((120 : Int) < (xs.length : Int) + 1) = true := decide_eq_true (by omega)
              have c120n : decide (120 < xs.length + 1) = true := decide_eq_true (by omega)
              clear hr hO hw hne hk h120
              go_wp2_with (first
                | (go_at_call 17
                   refine HO.out.mono ?_
                   rintro e w5 ⟨x, m, ⟨rfl, hb5⟩, rfl, rfl⟩
                   unfold wdV
                   have HO6 := Lib.hid ((HQ.out.2.1.below hb5).below (below_box (.cells #[.int .i64 (x.k : Int), .string (bs x.s), .int .i64 (outT x.n), .int .i64 (outV x.n)] 47)))
                   have HB6 := Lib.hid ((HQ.out.1.trans (hb5.mono HQ.out.1.size)).alloc (HQ.out.1.trans (hb5.mono HQ.out.1.size)).size (.cells #[.int .i64 (x.k : Int), .string (bs x.s), .int .i64 (outT x.n), .int .i64 (outV x.n)] 47))
                   clear hb5 HO)
                | (at_builtin
                   refine wpList_pushWd rfl (.tmp 29) (.tmp 31) rfl x HO6.out rfl (by simp [Act.eval]) HB6.out.size (by omega) ?_
                   intro u7 w7 q1 q2 q3 q4
                   obtain ⟨o7, j7, hv7⟩ := q1.form
                   have hl7 : (xs ++ [x]).length = xs.length + 1 := by simp
                   rw [hl7] at hv7
                   subst hv7
                   have HB7 := Lib.hid (HB6.out.trans q2)
                   clear q1 q2 q3 q4 hl7))
              go_ret2
              refine ⟨HB7.out, ?_⟩
              rw [HRR.out]
              rfl
            · have c120 : decide ((120 : Int) < (xs.length : Int) + 1) = false := decide_eq_false (by omega)
              have c120n : decide (120 < xs.length + 1) = false := decide_eq_false (by omega)
              have H120 := Lib.hid h120
              have HSQ := Lib.hid fun (W : World) => spaces_any l (k + n) W (by omega) (by omega)
              obtain ⟨k9, hk9⟩ : ∃ k9, k + n + spcL (l.drop (k + n)) = k9 := ⟨_, rfl⟩
              rw [hk9] at HSQ
              have HK9 := Lib.hid hk9
              have hs9 := spc_le (l.drop (k + n))
              rw [List.length_drop] at hs9
              have HLE := Lib.hid (show k9 ≤ l.length ∧ k < k9 by omega)
              clear hO hw hne hk h120 hk9 hs9
              go_wp2_with (first
                | (go_at_call 17
                   refine HO.out.mono ?_
                   rintro e w5 ⟨x, m, ⟨rfl, hb5⟩, rfl, rfl⟩
                   unfold wdV
                   have HO6 := Lib.hid ((HQ.out.2.1.below hb5).below (below_box (.cells #[.int .i64 (x.k : Int), .string (bs x.s), .int .i64 (outT x.n), .int .i64 (outV x.n)] 47)))
                   have HB6 := Lib.hid ((HQ.out.1.trans (hb5.mono HQ.out.1.size)).alloc (HQ.out.1.trans (hb5.mono HQ.out.1.size)).size (.cells #[.int .i64 (x.k : Int), .string (bs x.s), .int .i64 (outT x.n), .int .i64 (outV x.n)] 47))
                   clear hb5 HO)
                | (at_builtin
                   refine wpList_pushWd rfl (.tmp 29) (.tmp 31) rfl x HO6.out rfl (by simp [Act.eval]) HB6.out.size (by omega) ?_
                   intro u7 w7 q1 q2 q3 q4
                   have HO7 := Lib.hid q1
                   obtain ⟨o7, j7, hv7⟩ := q1.form
                   have hl7 : (xs ++ [x]).length = xs.length + 1 := by simp
                   rw [hl7] at hv7
                   subst hv7
                   have HB7 := Lib.hid (HB6.out.trans q2)
                   clear q1 q2 q3 q4 hl7)
                | (go_at_call 16
                   refine (HSQ.out _).mono ?_
                   rintro e w8 ⟨rfl, rfl⟩))
              go_roundg (l.length - k9)
              case measure => have := HLE.out; have := HK.out; omega
              case rel => exact ⟨xs ++ [x], k9, rfl, by have := HLE.out; omega, Lib.hid ⟨HB7.out, HO7.out, by
                have h := words_step HNE.out HW.out H120.out HQ.out.2.2.1
                rw [lastE_snoc, ← HK9.out, ← List.drop_drop]
                have e : dropS ((l.drop k).drop n) = (l.drop (k + n)).drop (spcL (l.drop (k + n))) := by rw [List.drop_drop]; rfl
                rw [← e]
                exact h, by have := HQ.out.2.2.2; have := H120.out; simp; omega⟩⟩
end Go.Proofs.YtbemijbgbjcoeaaDoor.Char

/- The document's Same, of two lists of the same words. -/
namespace Go.Proofs.YtbemijbgbjcoeaaDoor.Char
open Go.RowKit Go.Lib
open Go.Proofs.YtbemijbgbjcoeaaDoor.Fig (outT outV)

set_option maxHeartbeats 4000000 in
theorem same_any (B1 B2 : Nat) (v1 v2 : Value) (xs : List Wd) (w : World) (h1 : OwnsWd B1 w v1 xs) (h2 : OwnsWd B2 w v2 xs) (hl : xs.length ≤ 1000) : Calls Tryd.prog 10 #[v1, v2] w fun e w' => e = .returned (.bool true) ∧ Below w.heap.size w w' := by
  obtain ⟨o1, j1, rfl⟩ := h1.form
  obtain ⟨o2, j2, rfl⟩ := h2.form
  have H1 := Lib.hid h1
  have H2 := Lib.hid h2
  have k0 : ((xs.length : Int) == (xs.length : Int)) = true := by simp
  clear h1 h2
  go_enter Tryd.func10, Tryd.ntmps10
  go_wp2_with fail
  go_loopw [5] (fun v wr => ∃ k : Nat, v = .int .i64 (k : Int) ∧ k ≤ xs.length ∧ Hid (Below w.heap.size w wr)) (fun v _ => xs.length - (RowKit.intOf v).toNat)
  case atStart => exact ⟨0, rfl, Nat.zero_le _, Lib.hid (Below.refl _ _)⟩
  case round =>
    obtain ⟨k, rfl, hk, HB⟩ := hrel
    by_cases hlt : k < xs.length
    · obtain ⟨g1, rfl, hg1, x0, x1, x2, x3⟩ := (H1.out.below HB.out).reads k hlt
      obtain ⟨g2, rfl, hg2, y0, y1, y2, y3⟩ := (H2.out.below HB.out).reads k hlt
      have k1 : decide ((k : Int) < (xs.length : Int)) = true := decide_eq_true (by omega)
      have hz0 : (0 : Int) ≤ (k : Int) := by omega
      have hz1 : (k : Int) < (xs.length : Int) := by omega
      have HLT := Lib.hid hlt
      generalize (xs[k].k : Int) = c0 at *
      generalize bs xs[k].s = c1 at *
      generalize outT xs[k].n = c2 at *
      generalize outV xs[k].n = c3 at *
      clear hlt hk hg1 hg2
      go_upto_region 6 with fail
      go_quiet (fail)
      go_wp2_with fail
      exact ⟨⟨k + 1, by go_num, by have := HLT.out; omega, Lib.hid (HB.out.trans ⟨rfl, rfl, rfl, Nat.le_refl _, fun _ _ => rfl⟩)⟩, by have := HLT.out; simp [RowKit.intOf]; omega⟩
    · have k1 : decide ((k : Int) < (xs.length : Int)) = false := decide_eq_false (by omega)
      have k2 : decide (k < xs.length) = false := decide_eq_false hlt
      clear hlt hk
      go_wp2_with fail
      go_ret
      exact ⟨rfl, HB.out⟩
end Go.Proofs.YtbemijbgbjcoeaaDoor.Char

/- Three stars have their words. -/
namespace Go.Proofs.YtbemijbgbjcoeaaDoor.Char
open Go.RowKit Go.Lib
open Go.Proofs.YtbemijbgbjcoeaaDoor.Fig (outT outV)

theorem stars_lex : lexL [42, 32, 42, 32, 42] = .inr [⟨3, [42], .num 0⟩, ⟨5, [42], .num 0⟩, ⟨3, [42], .num 0⟩] := by kernel_rfl
set_option maxHeartbeats 2000000 in
theorem works_any (w : World) (hG : Gl w) : Calls Tryd.prog 7 #[] w fun e w' => e = .returned (.bool true) ∧ Below w.heap.size w w' := by
  have h := lex_any [42, 32, 42, 32, 42] w (by decide) hG
  rw [stars_lex] at h
  have HL := Lib.hid h
  clear h
  go_enter Tryd.func7, Tryd.ntmps7
  go_wp2_with (first
    | (go_at_call 8
       refine HL.out.mono ?_
       intro e w1 hz
       obtain ⟨v, x, rfl, hb1, rfl, ho⟩ := words_out hz
       obtain ⟨o, j, rfl⟩ := ho.form
       obtain ⟨g, rfl, hg, x0, _⟩ := ho.reads 0 (by decide)
       obtain ⟨g1, hg1, _, x1, _⟩ := ho.reads 1 (by decide)
       obtain ⟨g2, hg2, _, x2, _⟩ := ho.reads 2 (by decide)
       cases hg1
       cases hg2
       have HB1 := Lib.hid hb1
       clear hz hb1 ho hg HL))
  go_ret
  exact ⟨rfl, HB1.out⟩
end Go.Proofs.YtbemijbgbjcoeaaDoor.Char

/- Any text has the document's words, or is refused for its reason. -/
namespace Go.Proofs.YtbemijbgbjcoeaaDoor.Char
open Go.RowKit Go.Lib

set_option maxHeartbeats 4000000 in
theorem words_law (s : ByteArray) (w : World) (hG : Gl w) (hs : s.size ≤ 140737488351232) :
    Calls Tryd.prog 4 #[.string s] w fun e w' => e = .returned (.bool true) ∧ Below w.heap.size w w' := by
  obtain ⟨l, rfl⟩ : ∃ l, s = bs l := ⟨s.data.toList, (bs_of s).symm⟩
  have hsz := bs_size l
  have HW := Lib.hid fun (W : World) (hb : Below w.heap.size w W) => works_any W (hG.below hb)
  by_cases h1 : 500 < l.length
  · have k1 : decide ((500 : Int) < (l.length : Int)) = true := decide_eq_true (by omega)
    have HW1 := Lib.hid (HW.out w (Below.refl _ _))
    clear h1 HW hs
    go_enter Tryd.func4, Tryd.ntmps4
    go_wp2_with (first
      | (go_at_call 7
         refine HW1.out.mono ?_
         rintro e w1 ⟨rfl, hb1⟩
         have HB1 := Lib.hid hb1
         clear hb1 HW1))
    go_ret
    exact ⟨rfl, HB1.out⟩
  · have k1 : decide ((500 : Int) < (l.length : Int)) = false := decide_eq_false (by omega)
    have HA := Lib.hid (lex_any l w (by omega) hG)
    have HX := Lib.hid fun (W : World) => refLex_any l W (by omega)
    clear hs h1
    go_enter Tryd.func4, Tryd.ntmps4
    go_wp2_with (first
      | (go_at_call 8
         refine HA.out.mono ?_
         intro e w1 hz
         obtain ⟨v1, x1, rfl, hz1⟩ := words_out hz
         have HZ1 := Lib.hid hz1
         clear hz hz1 HA)
      | (go_at_call 9
         refine (HX.out _).mono ?_
         intro e w2 hz
         obtain ⟨v2, x2, rfl, hz2⟩ := words_out hz
         obtain ⟨rfl, xs, B1, B2, q1, q2⟩ := words_two HZ1.out hz2 hz2.1
         have hxx : (x1 == x1) = true := by simp
         have HS := Lib.hid (same_any B1 B2 v1 v2 xs w2 q1 q2 (by have := words_len HZ1.out q1; omega))
         have HB2 := Lib.hid (HZ1.out.1.trans (hz2.1.mono HZ1.out.1.size))
         clear hz hz2 q1 q2)
      | (go_at_call 10
         refine HS.out.mono ?_
         rintro e w3 ⟨rfl, hb3⟩
         have HB3 := Lib.hid (HB2.out.trans (hb3.mono HB2.out.size))
         have HW3 := Lib.hid (HW.out w3 (HB2.out.trans (hb3.mono HB2.out.size)))
         clear hb3 HS)
      | (go_at_call 7
         refine HW3.out.mono ?_
         rintro e w4 ⟨rfl, hb4⟩
         have HB4 := Lib.hid (HB3.out.trans (hb4.mono HB3.out.size))
         clear hb4 HW3))
    go_ret
    exact ⟨rfl, HB4.out⟩
end Go.Proofs.YtbemijbgbjcoeaaDoor.Char

/- A world in which the listed variables read as the rows list them; and what the rows' list, and a well-shaped world, give the walks. -/
namespace Go.Proofs.YtbemijbgbjcoeaaDoor.Char
open Go.ChangeShapes Go.WideShapes Go.ChangeAt Go.RowKit

theorem own : ownKnob Tryd.prog.godebug = none := by kernel_rfl

/-- what the rows list -/
def laid : List (String × DataW Unit) := [("unicode/utf8.acceptRanges", Rows.laid_unicode_utf8_acceptRanges), ("unicode/utf8.first", Rows.laid_unicode_utf8_first)]
def laidL : List (String × DataW Unit) := [("unicode/utf8.acceptRanges", Lib.acceptData), ("unicode/utf8.first", Lib.firstData)]
theorem accept_eq : (Rows.laid_unicode_utf8_acceptRanges : DataW Unit) = Lib.acceptData := by kernel_rfl
theorem first_eq : Rows.laid_unicode_utf8_first = Lib.firstData := Pinned.utf8First_eq
theorem laid_eq : laid = laidL := by
  unfold laid laidL
  rw [accept_eq, first_eq]
/-- the settled world, the variables holding what their initialisers lay -/
noncomputable def laidWorld (os : Os) : World := World.laidAll Tryd.prog os laid
theorem laid_met (os : Os) (args : Array Value) : laidMet Tryd.prog laid ((laidWorld os).forCall (fun _ _ => 0) ⟨#[], args, []⟩).memory := laidMet_laidAll _ (by kernel_rfl) (by kernel_rfl)
theorem maxL_of {W : World} (h : W.ShapedOpen Tryd.prog) : MaxL W :=
  cell_of_shapedOpen_int (t := 3) (zero := #[.int .i64 0]) h (of_decide_eq_true (by kernel_rfl)) (by kernel_rfl) rfl (by kernel_rfl) (by kernel_rfl) Tryd.underlying3
theorem tabs_of {W : World} (hL : laidMetH Tryd.prog laid W) : Tabs W := by
  rw [laid_eq] at hL
  exact utf8Tabs_of_readsT (U8Types.of196 laysValid) ⟨by kernel_rfl, by kernel_rfl, by kernel_rfl, by kernel_rfl, by kernel_rfl, by kernel_rfl, by kernel_rfl⟩ (Lib.laidMet.reads hL (by unfold laidL; simp)) (Lib.laidMet.reads hL (by unfold laidL; simp))
theorem reachBytes_val : reachBytes ≤ 140737488351232 := by decide
theorem gl_of {W : World} (hL : laidMetH Tryd.prog laid W) (hS : W.ShapedOpen Tryd.prog) : Gl W := ⟨tabs_of hL, maxL_of hS⟩
end Go.Proofs.YtbemijbgbjcoeaaDoor.Char
