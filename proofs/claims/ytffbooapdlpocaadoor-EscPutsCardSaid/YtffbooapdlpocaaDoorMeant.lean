/- The walks of esc's meant, get, Get, GetAttr. -/
import Derived.Test.YtffbooapdlpocaaDoorReadRef
import Derived.Test.YtffbooapdlpocaaDoorText
import Derived.WalkMore
namespace Go.Proofs.YtffbooapdlpocaaDoor.Char
open Go.RowKit Go.Lib Go.Shelf

/-- how much is left -/
def left (R : Nat) (w : World) : Nat := match w.cell? ⟨R, 0, none⟩ with
  | some (.string s) => s.size
  | _ => 0
theorem left_of {R : Nat} {l : List UInt8} {w : World} (h : RdB R l w) : left R w = l.length := by
  unfold left
  rw [h.1]
  exact bs_size l
theorem bld_but {B b R : Nat} {l : List UInt8} {w w' : World} (h : Bld B b l w) (hb : But R w w') (hR : R < B) : Bld B b l w' := by
  have one : ∀ p, Lib.BuilderAtF 46 5 B b p (Lib.byteCells l) w → Lib.BuilderAtF 46 5 B b p (Lib.byteCells l) w' := by
    rintro p ⟨hB, v, hv, ⟨hl, hown⟩, hne⟩
    refine ⟨hB, v, (hb.2 b (Array.getElem?_eq_some_iff.1 hv).1 (by omega)).trans hv, ⟨hl, ?_⟩, hne⟩
    rcases hown with h0 | ⟨g, cap, cur, fz, e1, e2, hg, e3⟩
    · exact .inl h0
    · exact .inr ⟨g, cap, cur, fz, e1, e2, (hb.2 g (Array.getElem?_eq_some_iff.1 hg).1 (by omega)).trans hg, e3⟩
  exact h.elim (fun x => .inl (one _ x)) (fun x => .inr (one _ x))
theorem RdB.low {R B : Nat} {l : List UInt8} {w w' : World} (h : RdB R l w) (hb : Below B w w') (hR : R < B) : RdB R l w' :=
  ⟨(hb.cell (p := ⟨R, 0, none⟩) hR).trans h.1, (hb.frozen (p := ⟨R, 0, none⟩) hR).trans h.2.1, Nat.lt_of_lt_of_le h.2.2 hb.size⟩
/-- what taking a byte off leaves, by its number -/
def NxI (R : Nat) (z : Int) (t : List UInt8) (w : World) (e : Ending) (w' : World) : Prop := e = .returned (.tuple #[.int .u8 z, .bool true]) ∧ RdB R t w' ∧ But R w w'
theorem stp_cr {attr : Bool} {en : UInt8} (he : en = if attr then 32 else 10) (t : List UInt8) : stp attr (13 :: t) = .inr ([en], nlL t) := by
  rw [stp_cons, if_neg (by decide), if_neg (by decide), if_pos rfl, he]
  rfl
theorem stp_nine {attr : Bool} {tb : UInt8} (ht : tb = if attr then 32 else 9) (t : List UInt8) : stp attr (9 :: t) = .inr ([tb], t) := by
  rw [stp_cons, if_neg (by decide), if_neg (by decide), if_neg (by decide), ht]
  cases attr <;> rfl
theorem stp_ten {attr : Bool} {en : UInt8} (he : en = if attr then 32 else 10) (t : List UInt8) : stp attr (10 :: t) = .inr ([en], t) := by
  rw [stp_cons, if_neg (by decide), if_neg (by decide), if_neg (by decide), he]
  cases attr <;> rfl
theorem stp_other (attr : Bool) (b : UInt8) (t : List UInt8) (h1 : b ≠ 60) (h2 : b ≠ 38) (h3 : b ≠ 13) (h4 : b ≠ 9) (h5 : b ≠ 10) : stp attr (b :: t) = .inr ([b], t) := by
  rw [stp_cons, if_neg h1, if_neg h2, if_neg h3, if_neg]
  rintro ⟨_, h | h⟩
  · exact h4 h
  · exact h5 h
theorem stp_amp_some (attr : Bool) {t r : List UInt8} {n : Nat} (h : refL t = some (n, r)) : stp attr (38 :: t) = .inr (encodeRune (n : Int), r) := by
  rw [stp_cons, if_neg (by decide), if_pos rfl, h]
theorem stp_amp_none (attr : Bool) {t : List UInt8} (h : refL t = none) : stp attr (38 :: t) = .inl 12 := by
  rw [stp_cons, if_neg (by decide), if_pos rfl, h]
theorem u8_ne (b x : UInt8) (h : b ≠ x) : ((b.toNat : Int) == (x.toNat : Int)) = false := by
  rw [beq_eq_false_iff_ne]
  intro hh
  apply h
  apply UInt8.toNat_inj.1
  omega
theorem nl_le (t : List UInt8) : (nlL t).length ≤ t.length := by
  unfold nlL
  split
  · rw [List.length_drop]; omega
  · exact Nat.le_refl _
theorem enc_le (n : Int) : (encodeRune n).length ≤ 4 := by
  have := encodeRuneZ_length n
  unfold encodeRune
  rw [List.length_map]
  omega
theorem ret_get {G : List UInt8 × Nat} {a : List UInt8} {n : Nat} (h : G = (a, n)) : Ending.returned (.tuple #[.string (bs a), .int .i64 (n : Int)]) = .returned (.tuple #[.string (bs G.1), .int .i64 (G.2 : Int)]) := by rw [h]
/-- what the loop keeps -/
def Kp (w0 w : World) (R : Nat) (attr : Bool) (l : List UInt8) (rest acc : List UInt8) (wr : World) : Prop :=
  RdB R rest wr ∧ Bld (R + 1) w.heap.size acc wr ∧ Below R w wr ∧ Below w0.heap.size w0 wr ∧ rest.length ≤ l.length ∧ acc.length ≤ 4 * (l.length - rest.length) ∧ gL attr acc rest = gL attr [] l
theorem Kp.size {w0 w : World} {R : Nat} {attr : Bool} {l rest acc : List UInt8} {wr : World} (h : Kp w0 w R attr l rest acc wr) (hl : l.length ≤ 100000) : R + 1 ≤ wr.heap.size ∧ acc.length ≤ 400000 ∧ rest.length ≤ 100000 := by
  obtain ⟨h1, h2, h3, h4, h5, h6, h7⟩ := h
  have := h1.2.2
  omega
theorem Kp.step {w0 w : World} {R : Nat} {attr : Bool} {l rest acc c r : List UInt8} {wr w1 w2 : World} (h : Kp w0 w R attr l rest acc wr) (hR : w0.heap.size ≤ R) (hst : stp attr rest = .inr (c, r)) (hc : c.length ≤ 4)
    (hr : RdB R r w1) (hb : But R wr w1) (hp : BldPost (R + 1) w.heap.size (acc ++ c) w1 w2) : Kp w0 w R attr l r (acc ++ c) w2 := by
  obtain ⟨h1, h2, h3, h4, h5, h6, h7⟩ := h
  have hlt := stp_lt hst
  refine ⟨hr.low hp.2 (by omega), hp.1, (h3.trans hb.1).trans (hp.2.mono (by omega)), (h4.trans (hb.1.mono hR)).trans (hp.2.mono (by omega)), by omega, ?_, ?_⟩
  · rw [List.length_append]; omega
  · rw [← h7, gL_step acc hst]

set_option maxRecDepth 100000 in
set_option maxHeartbeats 8000000 in
theorem meant_any (w0 : World) (R : Nat) (attr : Bool) (tb en : UInt8) (ht : tb = if attr then 32 else 9) (he : en = if attr then 32 else 10) (l : List UInt8) (w : World) (h : RdB R l w) (hl : l.length ≤ 100000) (hG : Gl w0) (hb0 : Below w0.heap.size w0 w) (hR : w0.heap.size ≤ R) :
    Calls Tryd.prog 28 #[.func (.func 29) #[.pointer (some ⟨R, 0, none⟩)] #[], .func (.func 30) #[.pointer (some ⟨R, 0, none⟩)] #[], .int .u8 (tb.toNat : Int), .int .u8 (en.toNat : Int)] w
      fun e w' => e = .returned (.tuple #[.string (bs (gL attr [] l).1), .int .i64 ((gL attr [] l).2 : Int)]) ∧ Below R w w' := by
  have e29 : ∀ args w, (callFunc 29 args).run Tryd.prog w = .ok (.enter 29 args) w := enters_of Tryd.func29 (by kernel_rfl) rfl
  have e30 : ∀ args w, (callFunc 30 args).run Tryd.prog w = .ok (.enter 30 args) w := enters_of Tryd.func30 (by kernel_rfl) rfl
  have hk0 : Kp w0 w R attr l l [] (w.alloc (.cells #[.pointer none, .slice none 0 0] 46)) := by
    have hf := Lib.IsBuilderF.of (Lib.fresh_isBuilder 46 5 w)
    have hba := (Below.refl w.heap.size w).alloc (Nat.le_refl _) (.cells #[.pointer none, .slice none 0 0] 46)
    have h3 := h.2.2
    refine ⟨h.below hba, ?_, hba.mono (by omega), hb0.trans (hba.mono hb0.size), Nat.le_refl _, by simp, rfl⟩
    have one : ∀ p, Lib.BuilderAtF 46 5 w.heap.size w.heap.size p [] (w.alloc (.cells #[.pointer none, .slice none 0 0] 46)) → Lib.BuilderAtF 46 5 (R + 1) w.heap.size p [] (w.alloc (.cells #[.pointer none, .slice none 0 0] 46)) := by
      rintro p ⟨hB, v, hb, hown, hne⟩
      refine ⟨by omega, v, hb, ⟨hown.1, ?_⟩, hne⟩
      rcases hown.2 with h | ⟨g, cap, cur, fz, h1, h2, h3⟩
      · exact .inl h
      · exact .inr ⟨g, cap, cur, fz, h1, by omega, h3⟩
    exact hf.elim (fun x => .inl (one _ x)) (fun x => .inr (one _ x))
  have HK0 := Lib.hid hk0
  have HT := Lib.hid ht
  have HE := Lib.hid he
  have HGL := Lib.hid hG
  have h3 := h.2.2
  clear hk0 ht he hG h hb0
  go_enter Tryd.func28, Tryd.ntmps28
  go_wp2_with fail
  go_step3
  go_wp2_with fail
  go_step3
  go_wp2_with fail
  go_loopw [] (fun wr => ∃ rest acc, Kp w0 w R attr l rest acc wr) (fun wr => left R wr)
  case atStart => exact ⟨l, [], HK0.out⟩
  case round =>
    obtain ⟨rest, acc, hk⟩ := hrel
    have HK := Lib.hid hk
    have hleft := left_of hk.1
    clear hk
    obtain ⟨hs1, hs2, hs3⟩ := HK.out.size hl
    have GET := fun e (hst : stp attr rest = .inl (e + 1)) => HK.out.2.2.2.2.2.2.symm.trans (gL_err acc hst (by omega))
    have HGET := Lib.hid GET
    clear GET
    cases rest with
    | nil =>
      have HN := Lib.hid (next_nil R wr HK.out.1)
      have HEND := Lib.hid (HK.out.2.2.2.2.2.2.symm.trans (gL_end acc (attr := attr) (l := []) rfl))
      clear HGET
      go_wp2_with fail
      refine HN.out.mono ?_
      rintro e w1 ⟨rfl, rfl⟩
      go_wp2_with fail
      refine (out_any (R + 1) w.heap.size acc _ HK.out.2.1 hs1).mono ?_
      rintro e w2 ⟨rfl, hb2⟩
      go_wp2_with fail
      rw [Exit.noGoto_ret]
      go_ret2
      exact ⟨ret_get HEND.out, HK.out.2.2.1.trans (hb2.mono (by omega))⟩
    | cons b t =>
      by_cases h60 : b = 60
      · subst h60
        have hn : Calls Tryd.prog 29 #[.pointer (some ⟨R, 0, none⟩)] wr (NxI R 60 t wr) := next_b R 60 t wr HK.out.1 (by decide)
        have HN := Lib.hid hn
        have HEND := Lib.hid (HGET.out 12 (by rw [stp_cons]; rfl))
        clear hn HGET
        go_wp2_with fail
        refine HN.out.mono ?_
        rintro e w1 ⟨rfl, hr1, hb1⟩
        clear hr1
        go_wp2_with fail
        rw [Exit.noGoto_ret]
        go_ret2
        exact ⟨ret_get HEND.out, HK.out.2.2.1.trans hb1.1⟩
      by_cases h38 : b = 38
      · subst h38
        have hn : Calls Tryd.prog 29 #[.pointer (some ⟨R, 0, none⟩)] wr (NxI R 38 t wr) := next_b R 38 t wr HK.out.1 (by decide)
        have HN := Lib.hid hn
        clear hn h60
        have htl : t.length ≤ 100000 := by rw [List.length_cons] at hs3; omega
        go_wp2_with fail
        refine HN.out.mono ?_
        rintro e w1 ⟨rfl, hr1, hb1⟩
        have HR1 := Lib.hid hr1
        have HB1 := Lib.hid hb1
        have HF := Lib.hid (ref_any w0 R t w1 hr1 htl HGL.out (HK.out.2.2.2.1.trans (hb1.1.mono hR)) hR)
        clear hr1 hb1
        go_wp2_with fail
        refine HF.out.mono ?_
        rintro e w2 ⟨hcase, hb2⟩
        have HB2 := Lib.hid (HB1.out.trans hb2)
        clear hb2
        rcases hcase with ⟨n, r, hrf, hic, rfl, hr2⟩ | ⟨hrf, z, rfl⟩
        · have HST := Lib.hid (stp_amp_some attr hrf)
          have HR2 := Lib.hid hr2
          have HIC := Lib.hid hic
          have HBL := Lib.hid (bld_but HK.out.2.1 HB2.out (by omega))
          have hz2 : R + 1 ≤ w2.heap.size := Nat.le_trans hs1 HB2.out.1.size
          clear hrf hr2 hic HF HGET
          go_wp2_with fail
          refine (rune_any (R + 1) w.heap.size acc (n : Int) HIC.out w2 HBL.out (by omega) hz2).mono ?_
          rintro e w3 ⟨⟨m, rfl⟩, hp3⟩
          have HK3 := Lib.hid (HK.out.step hR HST.out (enc_le _) HR2.out HB2.out hp3)
          clear hp3
          go_wp2_with fail
          go_roundw
          case rel => exact ⟨r, _, HK3.out⟩
          case measure =>
            rw [left_of HK3.out.1, hleft]
            exact stp_lt HST.out
        · have HEND := Lib.hid (HGET.out 11 (stp_amp_none attr hrf))
          clear hrf HF HGET
          go_wp2_with fail
          rw [Exit.noGoto_ret]
          go_ret2
          exact ⟨ret_get HEND.out, HK.out.2.2.1.trans HB2.out.1⟩
      clear HGET
      by_cases h13 : b = 13
      · subst h13
        have HN := Lib.hid ((show Calls Tryd.prog 29 #[.pointer (some ⟨R, 0, none⟩)] wr (NxI R 10 (nlL t) wr) from next_cr R t wr HK.out.1))
        have HST := Lib.hid (stp_cr HE.out t)
        clear h60 h38
        go_wp2_with fail
        refine HN.out.mono ?_
        rintro e w1 ⟨rfl, hr1, hb1⟩
        have HR1 := Lib.hid hr1
        have HB1 := Lib.hid hb1
        have HBL := Lib.hid (bld_but HK.out.2.1 hb1 (by omega))
        have hz1 : R + 1 ≤ w1.heap.size := Nat.le_trans hs1 hb1.1.size
        clear hr1 hb1
        go_wp2_with fail
        refine (byte_any (R + 1) w.heap.size acc en w1 HBL.out (by omega) hz1).mono ?_
        rintro e w3 ⟨rfl, hp3⟩
        have HK3 := Lib.hid (HK.out.step hR HST.out (by simp) HR1.out HB1.out hp3)
        clear hp3
        go_wp2_with fail
        go_roundw
        case rel => exact ⟨_, _, HK3.out⟩
        case measure =>
          rw [left_of HK3.out.1, hleft]
          exact stp_lt HST.out
      by_cases h9 : b = 9
      · subst h9
        have HN := Lib.hid ((show Calls Tryd.prog 29 #[.pointer (some ⟨R, 0, none⟩)] wr (NxI R 9 t wr) from next_b R 9 t wr HK.out.1 (by decide)))
        have HST := Lib.hid (stp_nine HT.out t)
        clear h60 h38 h13
        go_wp2_with fail
        refine HN.out.mono ?_
        rintro e w1 ⟨rfl, hr1, hb1⟩
        have HR1 := Lib.hid hr1
        have HB1 := Lib.hid hb1
        have HBL := Lib.hid (bld_but HK.out.2.1 hb1 (by omega))
        have hz1 : R + 1 ≤ w1.heap.size := Nat.le_trans hs1 hb1.1.size
        clear hr1 hb1
        go_wp2_with fail
        refine (byte_any (R + 1) w.heap.size acc tb w1 HBL.out (by omega) hz1).mono ?_
        rintro e w3 ⟨rfl, hp3⟩
        have HK3 := Lib.hid (HK.out.step hR HST.out (by simp) HR1.out HB1.out hp3)
        clear hp3
        go_wp2_with fail
        go_roundw
        case rel => exact ⟨_, _, HK3.out⟩
        case measure =>
          rw [left_of HK3.out.1, hleft]
          exact stp_lt HST.out
      by_cases h10 : b = 10
      · subst h10
        have HN := Lib.hid ((show Calls Tryd.prog 29 #[.pointer (some ⟨R, 0, none⟩)] wr (NxI R 10 t wr) from next_b R 10 t wr HK.out.1 (by decide)))
        have HST := Lib.hid (stp_ten HE.out t)
        clear h60 h38 h13 h9
        go_wp2_with fail
        refine HN.out.mono ?_
        rintro e w1 ⟨rfl, hr1, hb1⟩
        have HR1 := Lib.hid hr1
        have HB1 := Lib.hid hb1
        have HBL := Lib.hid (bld_but HK.out.2.1 hb1 (by omega))
        have hz1 : R + 1 ≤ w1.heap.size := Nat.le_trans hs1 hb1.1.size
        clear hr1 hb1
        go_wp2_with fail
        refine (byte_any (R + 1) w.heap.size acc en w1 HBL.out (by omega) hz1).mono ?_
        rintro e w3 ⟨rfl, hp3⟩
        have HK3 := Lib.hid (HK.out.step hR HST.out (by simp) HR1.out HB1.out hp3)
        clear hp3
        go_wp2_with fail
        go_roundw
        case rel => exact ⟨_, _, HK3.out⟩
        case measure =>
          rw [left_of HK3.out.1, hleft]
          exact stp_lt HST.out
      have q60 : ((b.toNat : Int) == 60) = false := u8_ne b 60 h60
      have q38 : ((b.toNat : Int) == 38) = false := u8_ne b 38 h38
      have q9 : ((b.toNat : Int) == 9) = false := u8_ne b 9 h9
      have q10 : ((b.toNat : Int) == 10) = false := u8_ne b 10 h10
      have HN := Lib.hid ((show Calls Tryd.prog 29 #[.pointer (some ⟨R, 0, none⟩)] wr (NxI R (b.toNat : Int) t wr) from next_b R b t wr HK.out.1 h13))
      have HST := Lib.hid (stp_other attr b t h60 h38 h13 h9 h10)
      clear h60 h38 h13 h9 h10
      go_wp2_with fail
      refine HN.out.mono ?_
      rintro e w1 ⟨rfl, hr1, hb1⟩
      have HR1 := Lib.hid hr1
      have HB1 := Lib.hid hb1
      have HBL := Lib.hid (bld_but HK.out.2.1 hb1 (by omega))
      have hz1 : R + 1 ≤ w1.heap.size := Nat.le_trans hs1 hb1.1.size
      clear hr1 hb1
      go_wp2_with fail
      refine (byte_any (R + 1) w.heap.size acc b w1 HBL.out (by omega) hz1).mono ?_
      rintro e w3 ⟨rfl, hp3⟩
      have HK3 := Lib.hid (HK.out.step hR HST.out (by simp) HR1.out HB1.out hp3)
      clear hp3
      go_wp2_with fail
      go_roundw
      case rel => exact ⟨_, _, HK3.out⟩
      case measure =>
        rw [left_of HK3.out.1, hleft]
        exact stp_lt HST.out
end Go.Proofs.YtffbooapdlpocaaDoor.Char
