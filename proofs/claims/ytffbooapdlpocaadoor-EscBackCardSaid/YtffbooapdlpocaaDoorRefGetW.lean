/- The walk of the document's own Get. -/
import Derived.Test.YtffbooapdlpocaaDoorGetM
import Derived.Test.YtffbooapdlpocaaDoorRefCharW
import Derived.Test.YtffbooapdlpocaaDoorRefText
import Derived.Test.YtffbooapdlpocaaDoorGet
namespace Go.Proofs.YtffbooapdlpocaaDoor.Char
open Go.RowKit Go.Lib

/-- what the loop keeps -/
def GK (attr : Bool) (l : List UInt8) (w : World) (k : Nat) (acc : List UInt8) (wr : World) : Prop :=
  k ≤ l.length ∧ acc.length ≤ 4 * k ∧ Below w.heap.size w wr ∧ gL attr acc (l.drop k) = gL attr [] l
theorem GK.step {attr : Bool} {l : List UInt8} {w : World} {k k2 : Nat} {acc c : List UInt8} {wr w2 : World} (h : GK attr l w k acc wr) (hst : stp attr (l.drop k) = .inr (c, l.drop k2)) (hc : c.length ≤ 4) (hk : k < k2) (hk2 : k2 ≤ l.length) (hb : Below w.heap.size w w2) : GK attr l w k2 (acc ++ c) w2 := by
  obtain ⟨h1, h2, h3, h4⟩ := h
  refine ⟨hk2, by rw [List.length_append]; omega, hb, ?_⟩
  rw [← h4, gL_step acc hst]
theorem GK.err {attr : Bool} {l : List UInt8} {w : World} {k e : Nat} {acc : List UInt8} {wr : World} (h : GK attr l w k acc wr) (hst : stp attr (l.drop k) = .inl (e + 1)) : gL attr [] l = ([], e + 1) := by
  rw [← h.2.2.2, gL_err acc hst (by omega)]
/-- s[i : j] -/
theorem slice_mid (l : List UInt8) (i j : Nat) (h : i ≤ j) (hj : j ≤ l.length) (wx : World) : (Instr.slice 9 (.string (bs l)) (some (.int .i64 (i : Int))) (some (.int .i64 (j : Int))) none).run Tryd.prog wx = .ok (.string (bs ((l.drop i).take (j - i)))) wx := by
  have := run_slice_string (P := Tryd.prog) wx 9 (bs l) .i64 .i64 (i : Int) (j : Int) Tryd.underlying9 (by omega) (by omega) (by rw [bs_size]; omega)
  rw [show (i : Int).toNat = i by omega, show (j : Int).toNat = j by omega, bs_ext] at this
  exact this
theorem ret_get2 {G : List UInt8 × Nat} {a : List UInt8} {n : Nat} (h : G = (a, n)) : Ending.returned (.tuple #[.string (bs a), .int .i64 (n : Int)]) = .returned (.tuple #[.string (bs G.1), .int .i64 (G.2 : Int)]) := by rw [h]
theorem nl_yes {t : List UInt8} (h : t.head? = some 10) : nlL t = t.drop 1 := by
  cases t with
  | nil => cases h
  | cons c r =>
    simp at h
    subst h
    rfl
theorem nl_no {t : List UInt8} (h : t.head? ≠ some 10) : nlL t = t := by
  cases t with
  | nil => rfl
  | cons c r =>
    unfold nlL
    rw [if_neg]
    intro h2
    simp [List.isPrefixOf] at h2
    exact h (by simp [h2])

set_option maxRecDepth 100000 in
set_option maxHeartbeats 32000000 in
theorem refGet_any (l : List UInt8) (attr : Bool) (w : World) (hl : l.length ≤ 2000) :
    Calls Tryd.prog 12 #[.string (bs l), .bool attr] w fun e w' => e = .returned (.tuple #[.string (bs (getD5 attr l).1), .int .i64 ((getD5 attr l).2 : Int)]) ∧ Below w.heap.size w w' := by
  have hsz := bs_size l
  have hT : Calls Tryd.prog 14 #[.string (bs l)] w fun e w' => e = .returned (.bool (txD l)) ∧ Below w.heap.size w w' := refText_any (bs l) w (by omega)
  obtain ⟨G, hGd⟩ : ∃ G, getD5 attr l = G := ⟨_, rfl⟩
  rw [hGd]
  cases htx : txD l with
  | false =>
    rw [htx] at hT
    have HTX := Lib.hid hT
    have HEND := Lib.hid (hGd.symm.trans (get_no htx))
    clear hT htx hGd
    go_enter Tryd.func12, Tryd.ntmps12
    go_wp2_with fail
    refine HTX.out.mono ?_
    rintro e w1 ⟨rfl, hb1⟩
    go_wp2_with fail
    go_ret2
    exact ⟨ret_get2 HEND.out, hb1⟩
  | true =>
    rw [htx] at hT
    have HTX := Lib.hid hT
    have HG0 := Lib.hid (hGd.symm.trans (get_yes htx))
    clear hT htx hGd
    go_enter Tryd.func12, Tryd.ntmps12
    go_wp2_with fail
    refine HTX.out.mono ?_
    rintro e w1 ⟨rfl, hb1⟩
    clear HTX
    have HK0 : Hid (GK attr l w 0 [] w1) := Lib.hid ⟨Nat.zero_le _, by simp, hb1, rfl⟩
    go_wp2_with fail
    go_loopw [6, 7] (fun o k wr => ∃ (kk : Nat) (acc : List UInt8), o = .string (bs acc) ∧ k = .int .i64 (kk : Int) ∧ GK attr l w kk acc wr) (fun _ k _ => l.length - (RowKit.intOf k).toNat)
    case atStart => exact ⟨0, [], rfl, rfl, HK0.out⟩
    case round =>
      obtain ⟨k, acc, rfl, rfl, hk⟩ := hrel
      have HK := Lib.hid hk
      obtain ⟨hkl, hal, hbw, _⟩ := hk
      have HB := Lib.hid hbw
      clear hbw HK0
      by_cases hlt : k < l.length
      · have hsl := slice_one l k hlt
        have hdr := drop_cons l k hlt
        obtain ⟨b, hb⟩ : ∃ b, b = l.getD k 0 := ⟨_, rfl⟩
        rw [← hb] at hsl hdr
        by_cases h60 : b = 60
        · subst h60
          have HEND := Lib.hid (HG0.out.trans (HK.out.err (e := 12) (by rw [hdr]; rfl)))
          have q60 := eq_one 60 60 true (by decide)
          clear hdr hb
          go_wp2_with fail
          go_ret2
          exact ⟨ret_get2 HEND.out, HB.out⟩
        by_cases h38 : b = 38
        · subst h38
          have q60 := eq_one 38 60 false (by decide)
          have q38 := eq_one 38 38 true (by decide)
          have HDR := Lib.hid hdr
          have HB38 := Lib.hid hb
          clear hdr h60 hb
          go_wp2_with fail
          go_loop [9] (fun v => ∃ e : Nat, v = .int .i64 (e : Int) ∧ k ≤ e ∧ e ≤ l.length ∧ Hid (∀ j, k ≤ j → j < e → l.getD j 0 ≠ 59)) (fun v => l.length - (RowKit.intOf v).toNat)
          case atStart => exact ⟨k, rfl, by omega, by omega, Lib.hid (fun j _ _ => by omega)⟩
          case round =>
            obtain ⟨e, rfl, hke, hel, HN⟩ := hrel
            by_cases hlt2 : e < l.length
            · have hlt3 : e < (bs l).size := by rw [hsz]; exact hlt2
              have hgt := bs_get l e hlt3
              by_cases h59 : l.getD e 0 = 59
              · have hg : ((bs l)[e]'hlt3).toNat = 59 := by rw [hgt, h59]; rfl
                have hke2 : k < e := by
                  rcases Nat.lt_or_ge k e with h | h
                  · exact h
                  · exfalso
                    have : e = k := by omega
                    rw [this, ← HB38.out] at h59
                    revert h59; decide
                have hrf := refL_at l (k + 1) e (by omega) hlt2 h59 (fun j h1 h2 => HN.out j (by omega) h2)
                have hmid := slice_mid l (k + 1) e (by omega) (by omega)
                rw [show (((k + 1 : Nat)) : Int) = (k : Int) + 1 by omega] at hmid
                have hNl : ((l.drop (k + 1)).take (e - (k + 1))).length ≤ 2000 := by rw [List.length_take, List.length_drop]; omega
                generalize (l.drop (k + 1)).take (e - (k + 1)) = N at *
                have HCH := Lib.hid (fun W => char_any N W hNl)
                clear hgt h59 HN
                cases hc : chL N with
                | none =>
                  rw [hc] at hrf
                  have HEND := Lib.hid (HG0.out.trans (HK.out.err (e := 11) (by rw [HDR.out]; exact stp_amp_none attr hrf)))
                  have HCN : Hid (∀ W, Calls Tryd.prog 21 #[.string (bs N)] W fun e w' => e = .returned (.string (bs [])) ∧ Below W.heap.size W w') := Lib.hid (fun W => by
                    have h := HCH.out W
                    unfold ChPost at h
                    rw [hc] at h
                    exact h)
                  have i1 : (bs []).toList = [] := bs_tl []
                  have i2 : (bs []).toList.isEmpty = true := by rw [i1]; rfl
                  clear hc hrf HCH
                  go_wp2_with fail
                  refine (HCN.out _).mono ?_
                  rintro e2 w2 ⟨rfl, hb2⟩
                  go_wp2_with fail
                  go_ret2
                  exact ⟨ret_get2 HEND.out, HB.out.trans (hb2.mono HB.out.size)⟩
                | some n =>
                  rw [hc] at hrf
                  have hcl := enc_le (n : Int)
                  have HST := Lib.hid (show stp attr (l.drop k) = .inr (encodeRune (n : Int), l.drop (e + 1)) by rw [HDR.out]; exact stp_amp_some attr hrf)
                  have hne := enc_ne (n : Int)
                  have hcn : ∀ W, Calls Tryd.prog 21 #[.string (bs N)] W fun e w' => e = .returned (.string (bs (encodeRune (n : Int)))) ∧ Below W.heap.size W w' := (fun W => by
                    have h := HCH.out W
                    unfold ChPost at h
                    rw [hc] at h
                    exact h)
                  generalize encodeRune (n : Int) = c at *
                  have HCN := Lib.hid hcn
                  have i1 : ¬ (bs c).toList = [] := by rw [bs_tl]; exact hne
                  have i2 : (bs c).toList.isEmpty = false := by rw [bs_tl]; cases c with | nil => exact absurd rfl hne | cons _ _ => rfl
                  have hadd := add_bs acc c (by omega) (by omega)
                  clear hc hrf HCH hcn hne
                  go_wp2_with fail
                  refine (HCN.out _).mono ?_
                  rintro e2 w2 ⟨rfl, hb2⟩
                  have HK2 := Lib.hid (HK.out.step HST.out hcl (by omega) (by omega) (HB.out.trans (hb2.mono HB.out.size)))
                  clear hb2
                  go_wp2_with fail
                  go_roundw
                  case rel => exact ⟨e + 1, _, rfl, by go_num, HK2.out⟩
                  case measure => simp [RowKit.intOf]; omega
              · obtain ⟨n2, hg, hn2⟩ : ∃ n2 : Nat, ((bs l)[e]'hlt3).toNat = n2 ∧ ((n2 : Int) != 59) = true := by
                  refine ⟨_, by rw [hgt], ?_⟩
                  have h : (((l.getD e 0).toNat : Int) == 59) = false := u8_ne (l.getD e 0) 59 h59
                  rw [bne, h]
                  rfl
                have HN2 : Hid (∀ j, k ≤ j → j < e + 1 → l.getD j 0 ≠ 59) := Lib.hid (fun j h1 h2 => by
                  by_cases h : j = e
                  · rw [h]; exact h59
                  · exact HN.out j h1 (by omega))
                clear hgt h59 HN
                go_wp2_with fail
                go_round
                case rel => exact ⟨e + 1, by go_num, by omega, by omega, HN2⟩
                case measure => simp [RowKit.intOf]; omega
            · have hrf := refL_off l (k + 1) (fun j h1 h2 => HN.out j (by omega) (by omega))
              have HEND := Lib.hid (HG0.out.trans (HK.out.err (e := 11) (by rw [HDR.out]; exact stp_amp_none attr hrf)))
              have hee : e = l.length := by omega
              clear hrf HN
              subst hee
              go_wp2_with fail
              go_ret2
              exact ⟨ret_get2 HEND.out, HB.out⟩
        have hb60 := eq_one b 60 false (beq_eq_false_iff_ne.2 h60)
        have hb38 := eq_one b 38 false (beq_eq_false_iff_ne.2 h38)
        by_cases h13 : b = 13
        · subst h13
          have q13 := eq_one 13 13 true (by decide)
          by_cases hnl : (l.drop (k + 1)).head? = some 10
          · have hk1 : k + 1 < l.length := by
              rcases Nat.lt_or_ge (k + 1) l.length with h | h
              · exact h
              · rw [List.drop_eq_nil_of_le h] at hnl; cases hnl
            have hlt1 : k + 1 < (bs l).size := by rw [hsz]; exact hk1
            have hg1 : ((bs l)[k + 1]'hlt1).toNat = 10 := by
              rw [bs_get l (k + 1) hlt1]
              rw [drop_cons l (k + 1) hk1] at hnl
              simp only [List.head?_cons, Option.some.injEq] at hnl
              rw [hnl]; rfl
            cases attr
            · have HK2 := Lib.hid (HK.out.step (c := [10]) (k2 := k + 1 + 1) (by rw [hdr, stp_cr rfl, nl_yes hnl, List.drop_drop]; rfl) (by simp) (by omega) (by omega) HB.out)
              have hadd : ∀ wx, (Op.stringOp .add (bs acc) ⟨#[10]⟩).run Tryd.prog wx = .ok (.string (bs (acc ++ [10]))) wx := add_bs acc [10] (by omega) (by simp)
              clear hdr hnl h60 h38 hb
              go_wp2_with fail
              go_roundw
              case rel => exact ⟨k + 1 + 1, _, rfl, by go_num, HK2.out⟩
              case measure => simp [RowKit.intOf]; omega
            · have HK2 := Lib.hid (HK.out.step (c := [32]) (k2 := k + 1 + 1) (by rw [hdr, stp_cr rfl, nl_yes hnl, List.drop_drop]; rfl) (by simp) (by omega) (by omega) HB.out)
              have hadd : ∀ wx, (Op.stringOp .add (bs acc) ⟨#[32]⟩).run Tryd.prog wx = .ok (.string (bs (acc ++ [32]))) wx := add_bs acc [32] (by omega) (by simp)
              clear hdr hnl h60 h38 hb
              go_wp2_with fail
              go_roundw
              case rel => exact ⟨k + 1 + 1, _, rfl, by go_num, HK2.out⟩
              case measure => simp [RowKit.intOf]; omega
          · have HNL := Lib.hid hnl
            cases attr
            · have HK2 := Lib.hid (HK.out.step (c := [10]) (k2 := k + 1) (by rw [hdr, stp_cr rfl, nl_no hnl]; rfl) (by simp) (by omega) (by omega) HB.out)
              have hadd : ∀ wx, (Op.stringOp .add (bs acc) ⟨#[10]⟩).run Tryd.prog wx = .ok (.string (bs (acc ++ [10]))) wx := add_bs acc [10] (by omega) (by simp)
              clear hdr hnl h60 h38 hb
              by_cases hk1 : k + 1 < l.length
              · have hlt1 : k + 1 < (bs l).size := by rw [hsz]; exact hk1
                obtain ⟨n1, hg1, hn1⟩ : ∃ n1 : Nat, ((bs l)[k + 1]'hlt1).toNat = n1 ∧ ((n1 : Int) == 10) = false := by
                  refine ⟨_, by rw [bs_get l (k + 1) hlt1], u8_ne (l.getD (k + 1) 0) 10 (fun h => HNL.out ?_)⟩
                  rw [drop_cons l (k + 1) hk1, h]; rfl
                go_wp2_with fail
                go_roundw
                case rel => exact ⟨k + 1, _, rfl, by go_num, HK2.out⟩
                case measure => simp [RowKit.intOf]; omega
              · go_wp2_with fail
                go_roundw
                case rel => exact ⟨k + 1, _, rfl, by go_num, HK2.out⟩
                case measure => simp [RowKit.intOf]; omega
            · have HK2 := Lib.hid (HK.out.step (c := [32]) (k2 := k + 1) (by rw [hdr, stp_cr rfl, nl_no hnl]; rfl) (by simp) (by omega) (by omega) HB.out)
              have hadd : ∀ wx, (Op.stringOp .add (bs acc) ⟨#[32]⟩).run Tryd.prog wx = .ok (.string (bs (acc ++ [32]))) wx := add_bs acc [32] (by omega) (by simp)
              clear hdr hnl h60 h38 hb
              by_cases hk1 : k + 1 < l.length
              · have hlt1 : k + 1 < (bs l).size := by rw [hsz]; exact hk1
                obtain ⟨n1, hg1, hn1⟩ : ∃ n1 : Nat, ((bs l)[k + 1]'hlt1).toNat = n1 ∧ ((n1 : Int) == 10) = false := by
                  refine ⟨_, by rw [bs_get l (k + 1) hlt1], u8_ne (l.getD (k + 1) 0) 10 (fun h => HNL.out ?_)⟩
                  rw [drop_cons l (k + 1) hk1, h]; rfl
                go_wp2_with fail
                go_roundw
                case rel => exact ⟨k + 1, _, rfl, by go_num, HK2.out⟩
                case measure => simp [RowKit.intOf]; omega
              · go_wp2_with fail
                go_roundw
                case rel => exact ⟨k + 1, _, rfl, by go_num, HK2.out⟩
                case measure => simp [RowKit.intOf]; omega
        have hb13 := eq_one b 13 false (beq_eq_false_iff_ne.2 h13)
        by_cases h10 : b = 10
        · subst h10
          have q10 := eq_one 10 10 true (by decide)
          cases attr
          · have HK2 := Lib.hid (HK.out.step (c := [10]) (k2 := k + 1) (by rw [hdr, stp_ten rfl]; rfl) (by simp) (by omega) (by omega) HB.out)
            have hadd : ∀ wx, (Op.stringOp .add (bs acc) (bs [10])).run Tryd.prog wx = .ok (.string (bs (acc ++ [10]))) wx := add_bs acc [10] (by omega) (by simp)
            clear hdr h60 h38 h13 hb
            go_wp2_with fail
            go_roundw
            case rel => exact ⟨k + 1, _, rfl, by go_num, HK2.out⟩
            case measure => simp [RowKit.intOf]; omega
          · have HK2 := Lib.hid (HK.out.step (c := [32]) (k2 := k + 1) (by rw [hdr, stp_ten rfl]; rfl) (by simp) (by omega) (by omega) HB.out)
            have hadd : ∀ wx, (Op.stringOp .add (bs acc) ⟨#[32]⟩).run Tryd.prog wx = .ok (.string (bs (acc ++ [32]))) wx := add_bs acc [32] (by omega) (by simp)
            clear hdr h60 h38 h13 hb
            go_wp2_with fail
            go_roundw
            case rel => exact ⟨k + 1, _, rfl, by go_num, HK2.out⟩
            case measure => simp [RowKit.intOf]; omega
        by_cases h9 : b = 9
        · subst h9
          have q10 := eq_one 9 10 false (by decide)
          have q9 := eq_one 9 9 true (by decide)
          cases attr
          · have HK2 := Lib.hid (HK.out.step (c := [9]) (k2 := k + 1) (by rw [hdr, stp_nine rfl]; rfl) (by simp) (by omega) (by omega) HB.out)
            have hadd : ∀ wx, (Op.stringOp .add (bs acc) (bs [9])).run Tryd.prog wx = .ok (.string (bs (acc ++ [9]))) wx := add_bs acc [9] (by omega) (by simp)
            clear hdr h60 h38 h13 hb
            go_wp2_with fail
            go_roundw
            case rel => exact ⟨k + 1, _, rfl, by go_num, HK2.out⟩
            case measure => simp [RowKit.intOf]; omega
          · have HK2 := Lib.hid (HK.out.step (c := [32]) (k2 := k + 1) (by rw [hdr, stp_nine rfl]; rfl) (by simp) (by omega) (by omega) HB.out)
            have hadd : ∀ wx, (Op.stringOp .add (bs acc) ⟨#[32]⟩).run Tryd.prog wx = .ok (.string (bs (acc ++ [32]))) wx := add_bs acc [32] (by omega) (by simp)
            clear hdr h60 h38 h13 hb
            go_wp2_with fail
            go_roundw
            case rel => exact ⟨k + 1, _, rfl, by go_num, HK2.out⟩
            case measure => simp [RowKit.intOf]; omega
        have q10 := eq_one b 10 false (beq_eq_false_iff_ne.2 h10)
        have q9 := eq_one b 9 false (beq_eq_false_iff_ne.2 h9)
        have HK2 := Lib.hid (HK.out.step (c := [b]) (k2 := k + 1) (by rw [hdr, stp_other attr b _ h60 h38 h13 h9 h10]) (by simp) (by omega) (by omega) HB.out)
        have hadd := add_bs acc [b] (by omega) (by simp)
        clear hdr h60 h38 h13 h9 h10 hb
        cases attr
        · go_wp2_with fail
          go_roundw
          case rel => exact ⟨k + 1, _, rfl, by go_num, HK2.out⟩
          case measure => simp [RowKit.intOf]; omega
        · go_wp2_with fail
          go_roundw
          case rel => exact ⟨k + 1, _, rfl, by go_num, HK2.out⟩
          case measure => simp [RowKit.intOf]; omega
      · have hst : stp attr (l.drop k) = .inl 0 := by rw [List.drop_eq_nil_of_le (by omega)]; rfl
        have HEND : Hid (G = (acc, 0)) := Lib.hid (by rw [HG0.out, ← HK.out.2.2.2, gL_end acc hst])
        clear hst
        go_wp2_with fail
        go_ret2
        exact ⟨ret_get2 HEND.out, HB.out⟩
end Go.Proofs.YtffbooapdlpocaaDoor.Char
