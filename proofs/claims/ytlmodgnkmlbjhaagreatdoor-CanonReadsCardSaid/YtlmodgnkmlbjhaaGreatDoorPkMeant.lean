import Derived.Test.YtlmodgnkmlbjhaaGreatDoorPkReader
import Derived.Test.YtlmodgnkmlbjhaaGreatDoorPkIs
import Derived.WalkMore
import Derived.Test.YtlmodgnkmlbjhaaGreatDoorPkMat
namespace Go.Proofs.YtlmodgnkmlbjhaaGreatDoor
namespace Char
open Go.RowKit Go.Lib Go.Shelf
def RfPost (R : Nat) (t : List UInt8) (w : World) (e : Ending) (w' : World) : Prop :=
 ((∃ (n : Nat) (r : List UInt8), refL t = some (n, r) ∧ isC (n : Int) = true ∧ e = .returned (.tuple #[.int .i32 (n : Int), .bool true]) ∧ RdB R r w') ∨
  (refL t = none ∧ ∃ z : Int, e = .returned (.tuple #[.int .i32 z, .bool false]))) ∧ But R w w'
theorem cutx_any (l : List UInt8) (w : World) : Calls Tryz.prog 144 #[.string (bs l), .string ⟨#[35, 120]⟩] w fun e w' => e = .returned (.tuple #[.string (bs (if [35, 120].isPrefixOf l then l.drop 2 else l)), .bool ([35, 120].isPrefixOf l)]) ∧ w' = w :=
 cutp_any l [35, 120] w
theorem cuth_any (l : List UInt8) (w : World) : Calls Tryz.prog 144 #[.string (bs l), .string ⟨#[35]⟩] w fun e w' => e = .returned (.tuple #[.string (bs (if [35].isPrefixOf l then l.tail else l)), .bool ([35].isPrefixOf l)]) ∧ w' = w := by
 have h := cutp_any l [35] w
 rw [show l.drop [(35 : UInt8)].length = l.tail from List.drop_one] at h
 exact h
theorem eq_bs (N l : List UInt8) (h : N = l) : ((bs N).toList == l) = true := by rw [bs_tl, h]; simp
theorem ne_bs (N l : List UInt8) (h : N ≠ l) : ((bs N).toList == l) = false := by rw [bs_tl]; simpa using h
theorem refL_some {t N r : List UInt8} (h : t.all noS = false) (hN : t.takeWhile noS = N) (hr : (t.dropWhile noS).drop 1 = r) (o : Option Nat) (hc : chL N = o) : refL t = o.map fun n => (n, r) := by
 unfold refL
 rw [h, hN, hr, hc]
 rfl
theorem RfPost.yes {R n : Nat} {t r : List UInt8} {w w' : World} (h : refL t = (some n).map fun n => (n, r)) (hn : isC (n : Int) = true) (hr : RdB R r w') (hb : But R w w') : RfPost R t w (.returned (.tuple #[.int .i32 (n : Int), .bool true])) w' :=
 ⟨.inl ⟨n, r, h, hn, rfl, hr⟩, hb⟩
theorem RfPost.of {R : Nat} {t r : List UInt8} {o : Option Nat} {w w' : World} {z : Int} {b : Bool} (h : refL t = o.map fun n => (n, r)) (hn : ∀ n, o = some n → isC (n : Int) = true) (hb0 : b = o.isSome) (hz : ∀ n, o = some n → z = (n : Int)) (hr : RdB R r w') (hb : But R w w') :
  RfPost R t w (.returned (.tuple #[.int .i32 z, .bool b])) w' := by
 subst hb0
 cases o with
 | none => exact ⟨.inr ⟨h, z, rfl⟩, hb⟩
 | some n => exact ⟨.inl ⟨n, r, h, hn n rfl, by rw [hz n rfl]; rfl, hr⟩, hb⟩
set_option maxRecDepth 100000 in
set_option maxHeartbeats 8000000 in
theorem ref_any (w0 : World) (R : Nat) (t : List UInt8) (w : World) (h : RdB R t w) (hl : t.length ≤ 100000) (hG : Gl w0) (hb0 : Below w0.heap.size w0 w) (hR : w0.heap.size ≤ R) :
  Calls Tryz.prog 186 #[.pointer (some ⟨R, 0, none⟩)] w (RfPost R t w) := by
 have hCut := cut_semi t w (by omega) (hG.below hb0).2.1
 obtain ⟨N, hN⟩ : ∃ N, t.takeWhile noS = N := ⟨_, rfl⟩
 obtain ⟨r, hr⟩ : ∃ r, (t.dropWhile noS).drop 1 = r := ⟨_, rfl⟩
 have hNl : N.length ≤ 100000 := by
  have := (List.takeWhile_prefix (l := t) noS).length_le
  rw [← hN]; omega
 rw [hN, hr] at hCut
 have hGl : ∀ W, But R w W → Gl W := fun W hW => hG.below (hb0.trans (hW.1.mono hR))
 have HGl := Lib.hid hGl
 have HH := Lib.hid h
 obtain ⟨h1, h2, h3⟩ := h
 cases ha : t.all noS with
 | true =>
  rw [ha] at hCut
  have HRF : Hid (refL t = none) := Lib.hid (by unfold refL; rw [ha]; rfl)
  have HC := Lib.hid hCut
  clear hCut ha hN hr hG hb0 hGl
  go_enter Tryz.func186, Tryz.ntmps186
  go_wp2_with fail
  refine HC.out.mono ?_
  rintro e w1 ⟨rfl, hb1⟩
  go_wp2_with fail
  go_ret2
  exact ⟨.inr ⟨HRF.out, 0, rfl⟩, But.of hb1 h3⟩
 | false =>
  rw [ha] at hCut
  have HRF := Lib.hid (fun o hc => refL_some ha hN hr o hc)
  have HC := Lib.hid hCut
  clear hCut ha hN hr hG hb0 hGl
  go_enter Tryz.func186, Tryz.ntmps186
  by_cases n1 : N = [97, 109, 112]
  ·have q1 := eq_bs N _ n1
   have HX := Lib.hid (HRF.out (some 38) (by rw [n1]; rfl))
   clear n1
   go_wp2_with fail
   refine HC.out.mono ?_
   rintro e w1 ⟨rfl, hb1⟩
   obtain ⟨k1, k2, k3⟩ := HH.out.below hb1
   go_wp2_with fail
   go_ret2
   exact RfPost.yes HX.out (by decide) (RdB.set ⟨k1, k2, k3⟩ r) ((But.of hb1 h3).trans (But.set _ _ _ _))
  by_cases n2 : N = [108, 116]
  ·have q2 := eq_bs N _ n2
   have q1 := ne_bs N _ n1
   have HX := Lib.hid (HRF.out (some 60) (by rw [n2]; rfl))
   clear n1 n2
   go_wp2_with fail
   refine HC.out.mono ?_
   rintro e w1 ⟨rfl, hb1⟩
   obtain ⟨k1, k2, k3⟩ := HH.out.below hb1
   go_wp2_with fail
   go_ret2
   exact RfPost.yes HX.out (by decide) (RdB.set ⟨k1, k2, k3⟩ r) ((But.of hb1 h3).trans (But.set _ _ _ _))
  by_cases n3 : N = [103, 116]
  ·have q3 := eq_bs N _ n3
   have q1 := ne_bs N _ n1
   have q2 := ne_bs N _ n2
   have HX := Lib.hid (HRF.out (some 62) (by rw [n3]; rfl))
   clear n1 n2 n3
   go_wp2_with fail
   refine HC.out.mono ?_
   rintro e w1 ⟨rfl, hb1⟩
   obtain ⟨k1, k2, k3⟩ := HH.out.below hb1
   go_wp2_with fail
   go_ret2
   exact RfPost.yes HX.out (by decide) (RdB.set ⟨k1, k2, k3⟩ r) ((But.of hb1 h3).trans (But.set _ _ _ _))
  by_cases n4 : N = [113, 117, 111, 116]
  ·have q4 := eq_bs N _ n4
   have q1 := ne_bs N _ n1
   have q2 := ne_bs N _ n2
   have q3 := ne_bs N _ n3
   have HX := Lib.hid (HRF.out (some 34) (by rw [n4]; rfl))
   clear n1 n2 n3 n4
   go_wp2_with fail
   refine HC.out.mono ?_
   rintro e w1 ⟨rfl, hb1⟩
   obtain ⟨k1, k2, k3⟩ := HH.out.below hb1
   go_wp2_with fail
   go_ret2
   exact RfPost.yes HX.out (by decide) (RdB.set ⟨k1, k2, k3⟩ r) ((But.of hb1 h3).trans (But.set _ _ _ _))
  by_cases n5 : N = [97, 112, 111, 115]
  ·have q5 := eq_bs N _ n5
   have q1 := ne_bs N _ n1
   have q2 := ne_bs N _ n2
   have q3 := ne_bs N _ n3
   have q4 := ne_bs N _ n4
   have HX := Lib.hid (HRF.out (some 39) (by rw [n5]; rfl))
   clear n1 n2 n3 n4 n5
   go_wp2_with fail
   refine HC.out.mono ?_
   rintro e w1 ⟨rfl, hb1⟩
   obtain ⟨k1, k2, k3⟩ := HH.out.below hb1
   go_wp2_with fail
   go_ret2
   exact RfPost.yes HX.out (by decide) (RdB.set ⟨k1, k2, k3⟩ r) ((But.of hb1 h3).trans (But.set _ _ _ _))
  have q1 := ne_bs N _ n1
  have q2 := ne_bs N _ n2
  have q3 := ne_bs N _ n3
  have q4 := ne_bs N _ n4
  have q5 := ne_bs N _ n5
  have hch : chL N = if [35, 120].isPrefixOf N then chrN 16 (N.drop 2) else if [35].isPrefixOf N then chrN 10 N.tail else none := by
   rw [← List.drop_one]
   unfold chL
   rw [if_neg n1, if_neg n2, if_neg n3, if_neg n4, if_neg n5]
  have HX := Lib.hid (HRF.out _ hch)
  clear n1 n2 n3 n4 n5 hch HRF
  have HCX := Lib.hid (cutx_any N)
  have HCH := Lib.hid (cuth_any N)
  have HN2 : Hid ((N.drop 2).length ≤ 100000 ∧ N.tail.length ≤ 100000) := Lib.hid (by rw [List.length_drop, List.length_tail]; omega)
  go_wp2_with fail
  refine HC.out.mono ?_
  rintro e w1 ⟨rfl, hb1⟩
  obtain ⟨k1, k2, k3⟩ := HH.out.below hb1
  have HRB : Hid (RdB R r (w1.setCell ⟨R, 0, none⟩ (.string (bs r)))) := Lib.hid (RdB.set ⟨k1, k2, k3⟩ r)
  have HBT : Hid (But R w (w1.setCell ⟨R, 0, none⟩ (.string (bs r)))) := Lib.hid ((But.of hb1 h3).trans (But.set _ _ _ _))
  clear HC HH
  go_wp2_with fail
  refine (HCX.out _).mono ?_
  rintro e w2 ⟨rfl, rfl⟩
  cases hp : [35, 120].isPrefixOf N with
  | true =>
   have hx := HX.out
   rw [hp, if_pos rfl] at hx
   have hnm := (fun W hW => numbered_any 16 (.inr rfl) (N.drop 2) W HN2.out.1 (HGl.out W hW))
   have hic : ∀ n, chrN 16 (N.drop 2) = some n → isC (n : Int) = true := fun n h => chrN_isC h
   generalize chrN 16 (N.drop 2) = o at hx hnm hic
   obtain ⟨bo, hbo⟩ : ∃ bo, bo = o.isSome := ⟨_, rfl⟩
   unfold chrV at hnm
   rw [← hbo] at hnm
   have HFIN : Hid (∀ (z : Int) (W : World), (∀ n, o = some n → z = (n : Int)) → RdB R r W → But R w W → RfPost R t w (.returned (.tuple #[.int .i32 z, .bool bo])) W) := Lib.hid (fun z W hz h1 h2 => RfPost.of hx hic hbo hz h1 h2)
   have HNM := Lib.hid hnm
   clear hx HX hp HCX HCH HGl HN2 hnm hic hbo
   go_wp2_with fail
   refine (HNM.out _ HBT.out).mono ?_
   rintro e w3 ⟨⟨z, rfl, hz⟩, hb3⟩
   have HEND : Hid (RfPost R t w (.returned (.tuple #[.int .i32 z, .bool bo])) w3) := Lib.hid (HFIN.out z w3 hz (HRB.out.below hb3) (HBT.out.trans (But.of hb3 HRB.out.2.2)))
   clear hz
   go_wp2_with fail
   go_ret2
   show RfPost R t w (.returned (.tuple #[.int .i32 z, .bool bo])) w3
   exact HEND.out
  | false =>
   have hx := HX.out
   rw [hp, if_neg (by simp)] at hx
   have HX2 := Lib.hid hx
   clear hx HX hp HCX
   go_wp2_with fail
   refine (HCH.out _).mono ?_
   rintro e w2 ⟨rfl, rfl⟩
   cases hp : [35].isPrefixOf N with
   | true =>
    have hx := HX2.out
    rw [hp, if_pos rfl] at hx
    have hnm := (fun W hW => numbered_any 10 (.inl rfl) N.tail W HN2.out.2 (HGl.out W hW))
    have hic : ∀ n, chrN 10 N.tail = some n → isC (n : Int) = true := fun n h => chrN_isC h
    generalize chrN 10 N.tail = o at hx hnm hic
    obtain ⟨bo, hbo⟩ : ∃ bo, bo = o.isSome := ⟨_, rfl⟩
    unfold chrV at hnm
    rw [← hbo] at hnm
    have HFIN : Hid (∀ (z : Int) (W : World), (∀ n, o = some n → z = (n : Int)) → RdB R r W → But R w W → RfPost R t w (.returned (.tuple #[.int .i32 z, .bool bo])) W) := Lib.hid (fun z W hz h1 h2 => RfPost.of hx hic hbo hz h1 h2)
    have HNM := Lib.hid hnm
    clear hx HX2 hp HCH HGl HN2 hnm hic hbo
    go_wp2_with fail
    refine (HNM.out _ HBT.out).mono ?_
    rintro e w3 ⟨⟨z, rfl, hz⟩, hb3⟩
    have HEND : Hid (RfPost R t w (.returned (.tuple #[.int .i32 z, .bool bo])) w3) := Lib.hid (HFIN.out z w3 hz (HRB.out.below hb3) (HBT.out.trans (But.of hb3 HRB.out.2.2)))
    clear hz
    go_wp2_with fail
    go_ret2
    show RfPost R t w (.returned (.tuple #[.int .i32 z, .bool bo])) w3
    exact HEND.out
   | false =>
    have hx := HX2.out
    rw [hp, if_neg (by simp)] at hx
    have HX3 := Lib.hid hx
    clear hx HX2 hp HCH HGl HN2
    go_wp2_with fail
    go_ret2
    show RfPost R t w (.returned (.tuple #[.int .i32 0, .bool false])) _
    exact ⟨.inr ⟨HX3.out, 0, rfl⟩, HBT.out⟩
end Char
namespace Char
open Go.RowKit Go.Lib Go.Shelf
def left (R : Nat) (w : World) : Nat := match w.cell? ⟨R, 0, none⟩ with
 | some (.string s) => s.size
 | _ => 0
theorem left_of {R : Nat} {l : List UInt8} {w : World} (h : RdB R l w) : left R w = l.length := by
 unfold left
 rw [h.1]
 exact bs_size l
theorem bld_but {B b R : Nat} {l : List UInt8} {w w' : World} (h : Bld B b l w) (hb : But R w w') (hR : R < B) : Bld B b l w' := by
 have one : ∀ p, Lib.BuilderAtF 44 5 B b p (Lib.byteCells l) w → Lib.BuilderAtF 44 5 B b p (Lib.byteCells l) w' := by
  rintro p ⟨hB, v, hv, ⟨hl, hown⟩, hne⟩
  refine ⟨hB, v, (hb.2 b (Array.getElem?_eq_some_iff.1 hv).1 (by omega)).trans hv, ⟨hl, ?_⟩, hne⟩
  rcases hown with h0 | ⟨g, cap, cur, fz, e1, e2, hg, e3⟩
  ·exact .inl h0
  ·exact .inr ⟨g, cap, cur, fz, e1, e2, (hb.2 g (Array.getElem?_eq_some_iff.1 hg).1 (by omega)).trans hg, e3⟩
 exact h.elim (fun x => .inl (one _ x)) (fun x => .inr (one _ x))
theorem RdB.low {R B : Nat} {l : List UInt8} {w w' : World} (h : RdB R l w) (hb : Below B w w') (hR : R < B) : RdB R l w' :=
 ⟨(hb.cell (p := ⟨R, 0, none⟩) hR).trans h.1, (hb.frozen (p := ⟨R, 0, none⟩) hR).trans h.2.1, Nat.lt_of_lt_of_le h.2.2 hb.size⟩
def NxI (R : Nat) (z : Int) (t : List UInt8) (w : World) (e : Ending) (w' : World) : Prop := e = .returned (.tuple #[.int .u8 z, .bool true]) ∧ RdB R t w' ∧ But R w w'
theorem ret_get {G : List UInt8 × Nat} {a : List UInt8} {n : Nat} (h : G = (a, n)) : Ending.returned (.tuple #[.string (bs a), .int .i64 (n : Int)]) = .returned (.tuple #[.string (bs G.1), .int .i64 (G.2 : Int)]) := by rw [h]
def Kp (w0 w : World) (R : Nat) (attr : Bool) (l : List UInt8) (rest acc : List UInt8) (wr : World) : Prop :=
 RdB R rest wr ∧ Bld (R + 1) w.heap.size acc wr ∧ Below R w wr ∧ Below w0.heap.size w0 wr ∧ rest.length ≤ l.length ∧ acc.length ≤ 4 * (l.length - rest.length) ∧ gL attr acc rest = gL attr [] l
theorem Kp.size {w0 w : World} {R : Nat} {attr : Bool} {l rest acc : List UInt8} {wr : World} (h : Kp w0 w R attr l rest acc wr) (hl : l.length ≤ 100000) : R + 1 ≤ wr.heap.size ∧ acc.length ≤ 400000 ∧ rest.length ≤ 100000 := by
 obtain ⟨h1, h2, h3, h4, h5, h6, h7⟩ := h
 have := h1.2.2
 omega
theorem Kp.step {w0 w : World} {R : Nat} {attr : Bool} {l rest acc c r : List UInt8} {wr w1 w2 : World} (h : Kp w0 w R attr l rest acc wr) (hR : w0.heap.size ≤ R) (hst : stp attr rest = .inr (c, r)) (hc : c.length ≤ 4)
  (hr : RdB R r w1) (hb : But R wr w1) (hp : BldPost (R + 1) w.heap.size (acc ++ c) w1 w2) : Kp w0 w R attr l r (acc ++ c) w2 := by
 obtain ⟨h1, h2, h3, h4, h5, h6, h7⟩ := h
 have hlt := stp_lt hst
 refine ⟨hr.low hp.2 (by omega), hp.1, (h3.trans hb.1).trans (hp.2.mono (by omega)), (h4.trans (hb.1.mono hR)).trans (hp.2.mono (by omega)), by omega, ?_, ?_⟩
 ·rw [List.length_append]; omega
 ·rw [← h7, gL_step acc hst]
set_option maxRecDepth 100000 in
set_option maxHeartbeats 8000000 in
theorem meant_any (w0 : World) (R : Nat) (attr : Bool) (tb en : UInt8) (ht : tb = if attr then 32 else 9) (he : en = if attr then 32 else 10) (l : List UInt8) (w : World) (h : RdB R l w) (hl : l.length ≤ 100000) (hG : Gl w0) (hb0 : Below w0.heap.size w0 w) (hR : w0.heap.size ≤ R) :
  Calls Tryz.prog 184 #[.func (.func 185) #[.pointer (some ⟨R, 0, none⟩)] #[], .func (.func 186) #[.pointer (some ⟨R, 0, none⟩)] #[], .int .u8 (tb.toNat : Int), .int .u8 (en.toNat : Int)] w
   fun e w' => e = .returned (.tuple #[.string (bs (gL attr [] l).1), .int .i64 ((gL attr [] l).2 : Int)]) ∧ Below R w w' := by
 have e29 : ∀ args w, (callFunc 185 args).run Tryz.prog w = .ok (.enter 185 args) w := enters_of Tryz.func185 (by kernel_rfl) rfl
 have e30 : ∀ args w, (callFunc 186 args).run Tryz.prog w = .ok (.enter 186 args) w := enters_of Tryz.func186 (by kernel_rfl) rfl
 have hk0 : Kp w0 w R attr l l [] (w.alloc (.cells #[.pointer none, .slice none 0 0] 44)) := by
  have hf := Lib.IsBuilderF.of (Lib.fresh_isBuilder 44 5 w)
  have hba := (Below.refl w.heap.size w).alloc (Nat.le_refl _) (.cells #[.pointer none, .slice none 0 0] 44)
  have h3 := h.2.2
  refine ⟨h.below hba, ?_, hba.mono (by omega), hb0.trans (hba.mono hb0.size), Nat.le_refl _, by simp, rfl⟩
  have one : ∀ p, Lib.BuilderAtF 44 5 w.heap.size w.heap.size p [] (w.alloc (.cells #[.pointer none, .slice none 0 0] 44)) → Lib.BuilderAtF 44 5 (R + 1) w.heap.size p [] (w.alloc (.cells #[.pointer none, .slice none 0 0] 44)) := by
   rintro p ⟨hB, v, hb, hown, hne⟩
   refine ⟨by omega, v, hb, ⟨hown.1, ?_⟩, hne⟩
   rcases hown.2 with h | ⟨g, cap, cur, fz, h1, h2, h3⟩
   ·exact .inl h
   ·exact .inr ⟨g, cap, cur, fz, h1, by omega, h3⟩
  exact hf.elim (fun x => .inl (one _ x)) (fun x => .inr (one _ x))
 have HK0 := Lib.hid hk0
 have HT := Lib.hid ht
 have HE := Lib.hid he
 have HGL := Lib.hid hG
 have h3 := h.2.2
 clear hk0 ht he hG h hb0
 go_enter Tryz.func184, Tryz.ntmps184
 go_wp2_with fail
 go_step3
 go_wp2_with fail
 go_step3
 go_wp2_with fail
 go_loopw [] (fun wr => ∃ rest acc, Kp w0 w R attr l rest acc wr) (fun wr => left R wr)
 case atStart => exact ⟨l, [], HK0.out⟩
 case round =>
  obtain ⟨rest, acc, hk⟩ := hrel
  have HK := Lib.hid hk
  have hleft := left_of hk.1
  clear hk
  obtain ⟨hs1, hs2, hs3⟩ := HK.out.size hl
  have GET := fun e (hst : stp attr rest = .inl (e + 1)) => HK.out.2.2.2.2.2.2.symm.trans (gL_err acc hst (by omega))
  have HGET := Lib.hid GET
  clear GET
  cases rest with
  | nil =>
   have HN := Lib.hid (next_nil R wr HK.out.1)
   have HEND := Lib.hid (HK.out.2.2.2.2.2.2.symm.trans (gL_end acc (attr := attr) (l := []) rfl))
   clear HGET
   go_wp2_with fail
   refine HN.out.mono ?_
   rintro e w1 ⟨rfl, rfl⟩
   go_wp2_with fail
   refine (out_any (R + 1) w.heap.size acc _ HK.out.2.1 hs1).mono ?_
   rintro e w2 ⟨rfl, hb2⟩
   go_wp2_with fail
   rw [Exit.noGoto_ret]
   go_ret2
   exact ⟨ret_get HEND.out, HK.out.2.2.1.trans (hb2.mono (by omega))⟩
  | cons b t =>
   by_cases h60 : b = 60
   ·subst h60
    have hn : Calls Tryz.prog 185 #[.pointer (some ⟨R, 0, none⟩)] wr (NxI R 60 t wr) := next_b R 60 t wr HK.out.1 (by decide)
    have HN := Lib.hid hn
    have HEND := Lib.hid (HGET.out 12 (by rw [stp_cons]; rfl))
    clear hn HGET
    go_wp2_with fail
    refine HN.out.mono ?_
    rintro e w1 ⟨rfl, hr1, hb1⟩
    clear hr1
    go_wp2_with fail
    rw [Exit.noGoto_ret]
    go_ret2
    exact ⟨ret_get HEND.out, HK.out.2.2.1.trans hb1.1⟩
   by_cases h38 : b = 38
   ·subst h38
    have hn : Calls Tryz.prog 185 #[.pointer (some ⟨R, 0, none⟩)] wr (NxI R 38 t wr) := next_b R 38 t wr HK.out.1 (by decide)
    have HN := Lib.hid hn
    clear hn h60
    have htl : t.length ≤ 100000 := by rw [List.length_cons] at hs3; omega
    go_wp2_with fail
    refine HN.out.mono ?_
    rintro e w1 ⟨rfl, hr1, hb1⟩
    have HR1 := Lib.hid hr1
    have HB1 := Lib.hid hb1
    have HF := Lib.hid (ref_any w0 R t w1 hr1 htl HGL.out (HK.out.2.2.2.1.trans (hb1.1.mono hR)) hR)
    clear hr1 hb1
    go_wp2_with fail
    refine HF.out.mono ?_
    rintro e w2 ⟨hcase, hb2⟩
    have HB2 := Lib.hid (HB1.out.trans hb2)
    clear hb2
    rcases hcase with ⟨n, r, hrf, hic, rfl, hr2⟩ | ⟨hrf, z, rfl⟩
    ·have HST := Lib.hid (stp_amp_some attr hrf)
     have HR2 := Lib.hid hr2
     have HIC := Lib.hid hic
     have HBL := Lib.hid (bld_but HK.out.2.1 HB2.out (by omega))
     have hz2 : R + 1 ≤ w2.heap.size := Nat.le_trans hs1 HB2.out.1.size
     clear hrf hr2 hic HF HGET
     go_wp2_with fail
     refine (rune_any (R + 1) w.heap.size acc (n : Int) HIC.out w2 HBL.out (by omega) hz2).mono ?_
     rintro e w3 ⟨⟨m, rfl⟩, hp3⟩
     have HK3 := Lib.hid (HK.out.step hR HST.out (enc_le _) HR2.out HB2.out hp3)
     clear hp3
     go_wp2_with fail
     go_roundw
     case rel => exact ⟨r, _, HK3.out⟩
     case measure =>
      rw [left_of HK3.out.1, hleft]
      exact stp_lt HST.out
    ·have HEND := Lib.hid (HGET.out 11 (stp_amp_none attr hrf))
     clear hrf HF HGET
     go_wp2_with fail
     rw [Exit.noGoto_ret]
     go_ret2
     exact ⟨ret_get HEND.out, HK.out.2.2.1.trans HB2.out.1⟩
   clear HGET
   by_cases h13 : b = 13
   ·subst h13
    have HN := Lib.hid ((show Calls Tryz.prog 185 #[.pointer (some ⟨R, 0, none⟩)] wr (NxI R 10 (nlL t) wr) from next_cr R t wr HK.out.1))
    have HST := Lib.hid (stp_cr HE.out t)
    clear h60 h38
    go_wp2_with fail
    refine HN.out.mono ?_
    rintro e w1 ⟨rfl, hr1, hb1⟩
    have HR1 := Lib.hid hr1
    have HB1 := Lib.hid hb1
    have HBL := Lib.hid (bld_but HK.out.2.1 hb1 (by omega))
    have hz1 : R + 1 ≤ w1.heap.size := Nat.le_trans hs1 hb1.1.size
    clear hr1 hb1
    go_wp2_with fail
    refine (byte_any (R + 1) w.heap.size acc en w1 HBL.out (by omega) hz1).mono ?_
    rintro e w3 ⟨rfl, hp3⟩
    have HK3 := Lib.hid (HK.out.step hR HST.out (by simp) HR1.out HB1.out hp3)
    clear hp3
    go_wp2_with fail
    go_roundw
    case rel => exact ⟨_, _, HK3.out⟩
    case measure =>
     rw [left_of HK3.out.1, hleft]
     exact stp_lt HST.out
   by_cases h9 : b = 9
   ·subst h9
    have HN := Lib.hid ((show Calls Tryz.prog 185 #[.pointer (some ⟨R, 0, none⟩)] wr (NxI R 9 t wr) from next_b R 9 t wr HK.out.1 (by decide)))
    have HST := Lib.hid (stp_nine HT.out t)
    clear h60 h38 h13
    go_wp2_with fail
    refine HN.out.mono ?_
    rintro e w1 ⟨rfl, hr1, hb1⟩
    have HR1 := Lib.hid hr1
    have HB1 := Lib.hid hb1
    have HBL := Lib.hid (bld_but HK.out.2.1 hb1 (by omega))
    have hz1 : R + 1 ≤ w1.heap.size := Nat.le_trans hs1 hb1.1.size
    clear hr1 hb1
    go_wp2_with fail
    refine (byte_any (R + 1) w.heap.size acc tb w1 HBL.out (by omega) hz1).mono ?_
    rintro e w3 ⟨rfl, hp3⟩
    have HK3 := Lib.hid (HK.out.step hR HST.out (by simp) HR1.out HB1.out hp3)
    clear hp3
    go_wp2_with fail
    go_roundw
    case rel => exact ⟨_, _, HK3.out⟩
    case measure =>
     rw [left_of HK3.out.1, hleft]
     exact stp_lt HST.out
   by_cases h10 : b = 10
   ·subst h10
    have HN := Lib.hid ((show Calls Tryz.prog 185 #[.pointer (some ⟨R, 0, none⟩)] wr (NxI R 10 t wr) from next_b R 10 t wr HK.out.1 (by decide)))
    have HST := Lib.hid (stp_ten HE.out t)
    clear h60 h38 h13 h9
    go_wp2_with fail
    refine HN.out.mono ?_
    rintro e w1 ⟨rfl, hr1, hb1⟩
    have HR1 := Lib.hid hr1
    have HB1 := Lib.hid hb1
    have HBL := Lib.hid (bld_but HK.out.2.1 hb1 (by omega))
    have hz1 : R + 1 ≤ w1.heap.size := Nat.le_trans hs1 hb1.1.size
    clear hr1 hb1
    go_wp2_with fail
    refine (byte_any (R + 1) w.heap.size acc en w1 HBL.out (by omega) hz1).mono ?_
    rintro e w3 ⟨rfl, hp3⟩
    have HK3 := Lib.hid (HK.out.step hR HST.out (by simp) HR1.out HB1.out hp3)
    clear hp3
    go_wp2_with fail
    go_roundw
    case rel => exact ⟨_, _, HK3.out⟩
    case measure =>
     rw [left_of HK3.out.1, hleft]
     exact stp_lt HST.out
   have q60 : ((b.toNat : Int) == 60) = false := u8_ne b 60 h60
   have q38 : ((b.toNat : Int) == 38) = false := u8_ne b 38 h38
   have q9 : ((b.toNat : Int) == 9) = false := u8_ne b 9 h9
   have q10 : ((b.toNat : Int) == 10) = false := u8_ne b 10 h10
   have HN := Lib.hid ((show Calls Tryz.prog 185 #[.pointer (some ⟨R, 0, none⟩)] wr (NxI R (b.toNat : Int) t wr) from next_b R b t wr HK.out.1 h13))
   have HST := Lib.hid (stp_other attr b t h60 h38 h13 h9 h10)
   clear h60 h38 h13 h9 h10
   go_wp2_with fail
   refine HN.out.mono ?_
   rintro e w1 ⟨rfl, hr1, hb1⟩
   have HR1 := Lib.hid hr1
   have HB1 := Lib.hid hb1
   have HBL := Lib.hid (bld_but HK.out.2.1 hb1 (by omega))
   have hz1 : R + 1 ≤ w1.heap.size := Nat.le_trans hs1 hb1.1.size
   clear hr1 hb1
   go_wp2_with fail
   refine (byte_any (R + 1) w.heap.size acc b w1 HBL.out (by omega) hz1).mono ?_
   rintro e w3 ⟨rfl, hp3⟩
   have HK3 := Lib.hid (HK.out.step hR HST.out (by simp) HR1.out HB1.out hp3)
   clear hp3
   go_wp2_with fail
   go_roundw
   case rel => exact ⟨_, _, HK3.out⟩
   case measure =>
    rw [left_of HK3.out.1, hleft]
    exact stp_lt HST.out
end Char
namespace Char
open Go.RowKit Go.Lib Go.Shelf
set_option maxRecDepth 100000 in
set_option maxHeartbeats 4000000 in
theorem get_any (attr : Bool) (tb en : UInt8) (ht : tb = if attr then 32 else 9) (he : en = if attr then 32 else 10) (l : List UInt8) (w : World) (hl : l.length ≤ 100000) (hG : Gl w) :
  Calls Tryz.prog 174 #[.string (bs l), .int .u8 (tb.toNat : Int), .int .u8 (en.toNat : Int)] w
   fun e w' => e = .returned (.tuple #[.string (bs (getD5 attr l).1), .int .i64 ((getD5 attr l).2 : Int)]) ∧ Below w.heap.size w w' := by
 have hs := bs_size l
 have hT : Calls Tryz.prog 41 #[.string (bs l)] w fun e w' => e = .returned (.bool (txD l)) ∧ Below w.heap.size w w' := text_any (bs l) w (by omega) hG.1
 have HGL := Lib.hid hG
 have HT := Lib.hid ht
 have HE := Lib.hid he
 obtain ⟨G, hGd⟩ : ∃ G, getD5 attr l = G := ⟨_, rfl⟩
 rw [hGd]
 clear hG ht he hs
 cases htx : txD l with
 | false =>
  rw [htx] at hT
  have HTX := Lib.hid hT
  have HEND := Lib.hid (hGd.symm.trans (get_no htx))
  clear hT htx hGd
  go_enter Tryz.func174, Tryz.ntmps174
  go_wp2_with fail
  refine HTX.out.mono ?_
  rintro e w1 ⟨rfl, hb1⟩
  go_wp2_with fail
  go_ret2
  exact ⟨ret_get HEND.out, hb1⟩
 | true =>
  rw [htx] at hT
  have HTX := Lib.hid hT
  have HEND := Lib.hid (hGd.symm.trans (get_yes htx))
  clear hT htx hGd
  go_enter Tryz.func174, Tryz.ntmps174
  go_wp2_with fail
  refine HTX.out.mono ?_
  rintro e w1 ⟨rfl, hb1⟩
  go_wp2_with fail
  refine (meant_any w1 w1.heap.size attr tb en HT.out HE.out l _ ?_ hl (HGL.out.below hb1) ?_ (Nat.le_refl _)).mono ?_
  ·refine ⟨?_, ?_, ?_⟩
   all_goals go_simp
  ·exact (Below.refl _ _).alloc (Nat.le_refl _) _
  ·rintro e w2 ⟨rfl, hb2⟩
   go_wp2_with fail
   go_ret2
   exact ⟨by rw [HEND.out]; rfl, hb1.trans ((((Below.refl _ _).alloc (Nat.le_refl _) _).trans hb2).mono hb1.size)⟩
set_option maxHeartbeats 2000000 in
theorem Get_any (l : List UInt8) (w : World) (hl : l.length ≤ 100000) (hG : Gl w) :
  Calls Tryz.prog 147 #[.string (bs l)] w fun e w' => e = .returned (.tuple #[.string (bs (getD5 false l).1), .int .i64 ((getD5 false l).2 : Int)]) ∧ Below w.heap.size w w' := by
 have hg : Calls Tryz.prog 174 #[.string (bs l), .int .u8 9, .int .u8 10] w fun e w' => e = .returned (.tuple #[.string (bs (getD5 false l).1), .int .i64 ((getD5 false l).2 : Int)]) ∧ Below w.heap.size w w' := get_any false 9 10 rfl rfl l w hl hG
 have HG := Lib.hid hg
 generalize getD5 false l = G at *
 clear hg hG
 go_enter Tryz.func147, Tryz.ntmps147
 go_wp2_with fail
 refine HG.out.mono ?_
 rintro e w2 ⟨rfl, hb2⟩
 go_wp2_with fail
 go_ret2
 exact ⟨rfl, hb2⟩
set_option maxHeartbeats 2000000 in
theorem GetAttr_any (l : List UInt8) (w : World) (hl : l.length ≤ 100000) (hG : Gl w) :
  Calls Tryz.prog 169 #[.string (bs l)] w fun e w' => e = .returned (.tuple #[.string (bs (getD5 true l).1), .int .i64 ((getD5 true l).2 : Int)]) ∧ Below w.heap.size w w' := by
 have hg : Calls Tryz.prog 174 #[.string (bs l), .int .u8 32, .int .u8 32] w fun e w' => e = .returned (.tuple #[.string (bs (getD5 true l).1), .int .i64 ((getD5 true l).2 : Int)]) ∧ Below w.heap.size w w' := get_any true 32 32 rfl rfl l w hl hG
 have HG := Lib.hid hg
 generalize getD5 true l = G at *
 clear hg hG
 go_enter Tryz.func169, Tryz.ntmps169
 go_wp2_with fail
 refine HG.out.mono ?_
 rintro e w2 ⟨rfl, hb2⟩
 go_wp2_with fail
 go_ret2
 exact ⟨rfl, hb2⟩
end Char
end Go.Proofs.YtlmodgnkmlbjhaaGreatDoor
