/- The walk of esc's reader: what takes a reference off. -/
import Derived.Test.YtffbooapdlpocaaDoorReader
namespace Go.Proofs.YtffbooapdlpocaaDoor.Char
open Go.RowKit Go.Lib Go.Shelf

/-- what taking a reference off leaves -/
def RfPost (R : Nat) (t : List UInt8) (w : World) (e : Ending) (w' : World) : Prop :=
  ((∃ (n : Nat) (r : List UInt8), refL t = some (n, r) ∧ isC (n : Int) = true ∧ e = .returned (.tuple #[.int .i32 (n : Int), .bool true]) ∧ RdB R r w') ∨
    (refL t = none ∧ ∃ z : Int, e = .returned (.tuple #[.int .i32 z, .bool false]))) ∧ But R w w'
theorem cutx_any (l : List UInt8) (w : World) : Calls Tryd.prog 40 #[.string (bs l), .string ⟨#[35, 120]⟩] w fun e w' => e = .returned (.tuple #[.string (bs (if [35, 120].isPrefixOf l then l.drop 2 else l)), .bool ([35, 120].isPrefixOf l)]) ∧ w' = w :=
  cutp_any l [35, 120] w
theorem cuth_any (l : List UInt8) (w : World) : Calls Tryd.prog 40 #[.string (bs l), .string ⟨#[35]⟩] w fun e w' => e = .returned (.tuple #[.string (bs (if [35].isPrefixOf l then l.tail else l)), .bool ([35].isPrefixOf l)]) ∧ w' = w := by
  have h := cutp_any l [35] w
  rw [show l.drop [(35 : UInt8)].length = l.tail from List.drop_one] at h
  exact h
theorem eq_bs (N l : List UInt8) (h : N = l) : ((bs N).toList == l) = true := by rw [bs_tl, h]; simp
theorem ne_bs (N l : List UInt8) (h : N ≠ l) : ((bs N).toList == l) = false := by rw [bs_tl]; simpa using h
theorem refL_some {t N r : List UInt8} (h : t.all noS = false) (hN : t.takeWhile noS = N) (hr : (t.dropWhile noS).drop 1 = r) (o : Option Nat) (hc : chL N = o) : refL t = o.map fun n => (n, r) := by
  unfold refL
  rw [h, hN, hr, hc]
  rfl
theorem RfPost.yes {R n : Nat} {t r : List UInt8} {w w' : World} (h : refL t = (some n).map fun n => (n, r)) (hn : isC (n : Int) = true) (hr : RdB R r w') (hb : But R w w') : RfPost R t w (.returned (.tuple #[.int .i32 (n : Int), .bool true])) w' :=
  ⟨.inl ⟨n, r, h, hn, rfl, hr⟩, hb⟩
theorem RfPost.of {R : Nat} {t r : List UInt8} {o : Option Nat} {w w' : World} {z : Int} {b : Bool} (h : refL t = o.map fun n => (n, r)) (hn : ∀ n, o = some n → isC (n : Int) = true) (hb0 : b = o.isSome) (hz : ∀ n, o = some n → z = (n : Int)) (hr : RdB R r w') (hb : But R w w') :
    RfPost R t w (.returned (.tuple #[.int .i32 z, .bool b])) w' := by
  subst hb0
  cases o with
  | none => exact ⟨.inr ⟨h, z, rfl⟩, hb⟩
  | some n => exact ⟨.inl ⟨n, r, h, hn n rfl, by rw [hz n rfl]; rfl, hr⟩, hb⟩

set_option maxRecDepth 100000 in
set_option maxHeartbeats 8000000 in
theorem ref_any (w0 : World) (R : Nat) (t : List UInt8) (w : World) (h : RdB R t w) (hl : t.length ≤ 100000) (hG : Gl w0) (hb0 : Below w0.heap.size w0 w) (hR : w0.heap.size ≤ R) :
    Calls Tryd.prog 30 #[.pointer (some ⟨R, 0, none⟩)] w (RfPost R t w) := by
  have hCut := cut_semi t w (by omega) (hG.below hb0).2.1
  obtain ⟨N, hN⟩ : ∃ N, t.takeWhile noS = N := ⟨_, rfl⟩
  obtain ⟨r, hr⟩ : ∃ r, (t.dropWhile noS).drop 1 = r := ⟨_, rfl⟩
  have hNl : N.length ≤ 100000 := by
    have := (List.takeWhile_prefix (l := t) noS).length_le
    rw [← hN]; omega
  rw [hN, hr] at hCut
  have hGl : ∀ W, But R w W → Gl W := fun W hW => hG.below (hb0.trans (hW.1.mono hR))
  have HGl := Lib.hid hGl
  have HH := Lib.hid h
  obtain ⟨h1, h2, h3⟩ := h
  cases ha : t.all noS with
  | true =>
    rw [ha] at hCut
    have HRF : Hid (refL t = none) := Lib.hid (by unfold refL; rw [ha]; rfl)
    have HC := Lib.hid hCut
    clear hCut ha hN hr hG hb0 hGl
    go_enter Tryd.func30, Tryd.ntmps30
    go_wp2_with fail
    refine HC.out.mono ?_
    rintro e w1 ⟨rfl, hb1⟩
    go_wp2_with fail
    go_ret2
    exact ⟨.inr ⟨HRF.out, 0, rfl⟩, But.of hb1 h3⟩
  | false =>
    rw [ha] at hCut
    have HRF := Lib.hid (fun o hc => refL_some ha hN hr o hc)
    have HC := Lib.hid hCut
    clear hCut ha hN hr hG hb0 hGl
    go_enter Tryd.func30, Tryd.ntmps30
    by_cases n1 : N = [97, 109, 112]
    · have q1 := eq_bs N _ n1
      have HX := Lib.hid (HRF.out (some 38) (by rw [n1]; rfl))
      clear n1
      go_wp2_with fail
      refine HC.out.mono ?_
      rintro e w1 ⟨rfl, hb1⟩
      obtain ⟨k1, k2, k3⟩ := HH.out.below hb1
      go_wp2_with fail
      go_ret2
      exact RfPost.yes HX.out (by decide) (RdB.set ⟨k1, k2, k3⟩ r) ((But.of hb1 h3).trans (But.set _ _ _ _))
    by_cases n2 : N = [108, 116]
    · have q2 := eq_bs N _ n2
      have q1 := ne_bs N _ n1
      have HX := Lib.hid (HRF.out (some 60) (by rw [n2]; rfl))
      clear n1 n2
      go_wp2_with fail
      refine HC.out.mono ?_
      rintro e w1 ⟨rfl, hb1⟩
      obtain ⟨k1, k2, k3⟩ := HH.out.below hb1
      go_wp2_with fail
      go_ret2
      exact RfPost.yes HX.out (by decide) (RdB.set ⟨k1, k2, k3⟩ r) ((But.of hb1 h3).trans (But.set _ _ _ _))
    by_cases n3 : N = [103, 116]
    · have q3 := eq_bs N _ n3
      have q1 := ne_bs N _ n1
      have q2 := ne_bs N _ n2
      have HX := Lib.hid (HRF.out (some 62) (by rw [n3]; rfl))
      clear n1 n2 n3
      go_wp2_with fail
      refine HC.out.mono ?_
      rintro e w1 ⟨rfl, hb1⟩
      obtain ⟨k1, k2, k3⟩ := HH.out.below hb1
      go_wp2_with fail
      go_ret2
      exact RfPost.yes HX.out (by decide) (RdB.set ⟨k1, k2, k3⟩ r) ((But.of hb1 h3).trans (But.set _ _ _ _))
    by_cases n4 : N = [113, 117, 111, 116]
    · have q4 := eq_bs N _ n4
      have q1 := ne_bs N _ n1
      have q2 := ne_bs N _ n2
      have q3 := ne_bs N _ n3
      have HX := Lib.hid (HRF.out (some 34) (by rw [n4]; rfl))
      clear n1 n2 n3 n4
      go_wp2_with fail
      refine HC.out.mono ?_
      rintro e w1 ⟨rfl, hb1⟩
      obtain ⟨k1, k2, k3⟩ := HH.out.below hb1
      go_wp2_with fail
      go_ret2
      exact RfPost.yes HX.out (by decide) (RdB.set ⟨k1, k2, k3⟩ r) ((But.of hb1 h3).trans (But.set _ _ _ _))
    by_cases n5 : N = [97, 112, 111, 115]
    · have q5 := eq_bs N _ n5
      have q1 := ne_bs N _ n1
      have q2 := ne_bs N _ n2
      have q3 := ne_bs N _ n3
      have q4 := ne_bs N _ n4
      have HX := Lib.hid (HRF.out (some 39) (by rw [n5]; rfl))
      clear n1 n2 n3 n4 n5
      go_wp2_with fail
      refine HC.out.mono ?_
      rintro e w1 ⟨rfl, hb1⟩
      obtain ⟨k1, k2, k3⟩ := HH.out.below hb1
      go_wp2_with fail
      go_ret2
      exact RfPost.yes HX.out (by decide) (RdB.set ⟨k1, k2, k3⟩ r) ((But.of hb1 h3).trans (But.set _ _ _ _))
    have q1 := ne_bs N _ n1
    have q2 := ne_bs N _ n2
    have q3 := ne_bs N _ n3
    have q4 := ne_bs N _ n4
    have q5 := ne_bs N _ n5
    have hch : chL N = if [35, 120].isPrefixOf N then chrN 16 (N.drop 2) else if [35].isPrefixOf N then chrN 10 N.tail else none := by
      rw [← List.drop_one]
      unfold chL
      rw [if_neg n1, if_neg n2, if_neg n3, if_neg n4, if_neg n5]
    have HX := Lib.hid (HRF.out _ hch)
    clear n1 n2 n3 n4 n5 hch HRF
    have HCX := Lib.hid (cutx_any N)
    have HCH := Lib.hid (cuth_any N)
    have HN2 : Hid ((N.drop 2).length ≤ 100000 ∧ N.tail.length ≤ 100000) := Lib.hid (by rw [List.length_drop, List.length_tail]; omega)
    go_wp2_with fail
    refine HC.out.mono ?_
    rintro e w1 ⟨rfl, hb1⟩
    obtain ⟨k1, k2, k3⟩ := HH.out.below hb1
    have HRB : Hid (RdB R r (w1.setCell ⟨R, 0, none⟩ (.string (bs r)))) := Lib.hid (RdB.set ⟨k1, k2, k3⟩ r)
    have HBT : Hid (But R w (w1.setCell ⟨R, 0, none⟩ (.string (bs r)))) := Lib.hid ((But.of hb1 h3).trans (But.set _ _ _ _))
    clear HC HH
    go_wp2_with fail
    refine (HCX.out _).mono ?_
    rintro e w2 ⟨rfl, rfl⟩
    cases hp : [35, 120].isPrefixOf N with
    | true =>
      have hx := HX.out
      rw [hp, if_pos rfl] at hx
      have hnm := (fun W hW => numbered_any 16 (.inr rfl) (N.drop 2) W HN2.out.1 (HGl.out W hW))
      have hic : ∀ n, chrN 16 (N.drop 2) = some n → isC (n : Int) = true := fun n h => chrN_isC h
      generalize chrN 16 (N.drop 2) = o at hx hnm hic
      obtain ⟨bo, hbo⟩ : ∃ bo, bo = o.isSome := ⟨_, rfl⟩
      unfold chrV at hnm
      rw [← hbo] at hnm
      have HFIN : Hid (∀ (z : Int) (W : World), (∀ n, o = some n → z = (n : Int)) → RdB R r W → But R w W → RfPost R t w (.returned (.tuple #[.int .i32 z, .bool bo])) W) := Lib.hid (fun z W hz h1 h2 => RfPost.of hx hic hbo hz h1 h2)
      have HNM := Lib.hid hnm
      clear hx HX hp HCX HCH HGl HN2 hnm hic hbo
      go_wp2_with fail
      refine (HNM.out _ HBT.out).mono ?_
      rintro e w3 ⟨⟨z, rfl, hz⟩, hb3⟩
      have HEND : Hid (RfPost R t w (.returned (.tuple #[.int .i32 z, .bool bo])) w3) := Lib.hid (HFIN.out z w3 hz (HRB.out.below hb3) (HBT.out.trans (But.of hb3 HRB.out.2.2)))
      clear hz
      go_wp2_with fail
      go_ret2
      show RfPost R t w (.returned (.tuple #[.int .i32 z, .bool bo])) w3
      exact HEND.out
    | false =>
      have hx := HX.out
      rw [hp, if_neg (by simp)] at hx
      have HX2 := Lib.hid hx
      clear hx HX hp HCX
      go_wp2_with fail
      refine (HCH.out _).mono ?_
      rintro e w2 ⟨rfl, rfl⟩
      cases hp : [35].isPrefixOf N with
      | true =>
        have hx := HX2.out
        rw [hp, if_pos rfl] at hx
        have hnm := (fun W hW => numbered_any 10 (.inl rfl) N.tail W HN2.out.2 (HGl.out W hW))
        have hic : ∀ n, chrN 10 N.tail = some n → isC (n : Int) = true := fun n h => chrN_isC h
        generalize chrN 10 N.tail = o at hx hnm hic
        obtain ⟨bo, hbo⟩ : ∃ bo, bo = o.isSome := ⟨_, rfl⟩
        unfold chrV at hnm
        rw [← hbo] at hnm
        have HFIN : Hid (∀ (z : Int) (W : World), (∀ n, o = some n → z = (n : Int)) → RdB R r W → But R w W → RfPost R t w (.returned (.tuple #[.int .i32 z, .bool bo])) W) := Lib.hid (fun z W hz h1 h2 => RfPost.of hx hic hbo hz h1 h2)
        have HNM := Lib.hid hnm
        clear hx HX2 hp HCH HGl HN2 hnm hic hbo
        go_wp2_with fail
        refine (HNM.out _ HBT.out).mono ?_
        rintro e w3 ⟨⟨z, rfl, hz⟩, hb3⟩
        have HEND : Hid (RfPost R t w (.returned (.tuple #[.int .i32 z, .bool bo])) w3) := Lib.hid (HFIN.out z w3 hz (HRB.out.below hb3) (HBT.out.trans (But.of hb3 HRB.out.2.2)))
        clear hz
        go_wp2_with fail
        go_ret2
        show RfPost R t w (.returned (.tuple #[.int .i32 z, .bool bo])) w3
        exact HEND.out
      | false =>
        have hx := HX2.out
        rw [hp, if_neg (by simp)] at hx
        have HX3 := Lib.hid hx
        clear hx HX2 hp HCH HGl HN2
        go_wp2_with fail
        go_ret2
        show RfPost R t w (.returned (.tuple #[.int .i32 0, .bool false])) _
        exact ⟨.inr ⟨HX3.out, 0, rfl⟩, HBT.out⟩
end Go.Proofs.YtffbooapdlpocaaDoor.Char
