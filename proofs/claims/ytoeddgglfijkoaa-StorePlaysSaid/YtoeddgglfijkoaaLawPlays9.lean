/- The law StorePlays: whatever is laid, asked and swept, a store has, and each call answers, what the document says. -/
import Derived.Test.YtoeddgglfijkoaaWorks9
import Derived.Test.YtoeddgglfijkoaaRun9
import Derived.Deep.RegionWith
namespace Go.Proofs.Ytoeddgglfijkoaa.Char
open Go.RowKit Go.Lib

set_option maxRecDepth 100000 in
set_option maxHeartbeats 16000000 in
theorem lawPlays_any (xs : List StV) (o : Option Addr) (j : Nat) (w : World) (h : StsOn w w.heap.size (.slice o xs.length j) xs) (hl : xs.length ≤ 2 ^ 62) :
    Calls Try.prog 3 #[.slice o xs.length j] w fun e w' => e = .returned (.bool true) ∧ Below w.heap.size w w' := by
  have HN := Lib.hid (ps_new w.heap.size w (Nat.le_refl _))
  have HX := Lib.hid h
  clear h
  go_enter Try.func3, Try.ntmps3
  go_wp2_with (first
    | (go_at_call 8
       refine HN.out.mono ?_
       rintro e w1 ⟨s, rfl, p1, b1⟩
       have HP1 := Lib.hid p1
       have HB1 := Lib.hid b1
       have HR := Lib.hid (refNew_any w.heap.size w1 b1.size)
       clear p1 b1)
    | (go_at_call 9
       refine HR.out.mono ?_
       rintro e w2 ⟨d, vd, rfl, r2, b2, n2⟩
       have hT := two_start HP1.out b2 r2 n2
       have HT : Hid (Two w.heap.size w2 s d newS) := Lib.hid hT
       have HB2 := Lib.hid (HB1.out.trans (b2.mono HB1.out.size))
       clear r2 b2 n2 hT HN HP1 HR))
  go_loopw [5] (fun v wr => ∃ k : Nat, v = .int .i64 (k : Int) ∧ k ≤ xs.length ∧ k ≤ 60 ∧ ∃ S, FitS k S ∧ Hid (Two w.heap.size wr s d S ∧ Below w.heap.size w wr)) (fun v _ => xs.length - (RowKit.intOf v).toNat)
  case atStart => exact ⟨0, rfl, Nat.zero_le _, Nat.zero_le _, newS, FitS.start, Lib.hid ⟨HT.out, HB2.out⟩⟩
  case round =>
    obtain ⟨k, rfl, hk, hk6, S, hf, HR⟩ := hrel
    clear HT HB2 HB1
    by_cases hlt : k < xs.length
    · by_cases h60 : k < 60
      · obtain ⟨g, off, rfl, hat, hok⟩ := (HX.out.below HR.out.2).reads k hlt
        have hf1 := hf.step h60 xs[k]
        have ht : Two w.heap.size wr.drew s d S := Two.below HR.out.1 (Below.refl _ _).drew
        have HS := Lib.hid (step_any ht xs[k] (hok.below (Below.refl _ wr).drew) (hf.g hk6) (hf.l hk6))
        have HB := Lib.hid HR.out.2.drew
        unfold stV at HS
        obtain ⟨a0, a1, a2, a3⟩ := hat
        generalize stepS S xs[k] = S' at *
        generalize xs[k] = x at *
        have hg' := hf1.g (by omega)
        have hl' := hf1.l (by omega)
        have HF := Lib.hid hf1
        clear hf hf1 ht hok HR
        go_wp2_with fail
        go_region_with
          (first
            | (go_at_call 10
               refine HS.out.mono ?_
               rintro e w3 ⟨rfl, t3, b3⟩
               obtain ⟨Z, v3, zs, p3, r3, e3, ap3⟩ := t3
               obtain ⟨o3, j3, e4⟩ := r3.row.form
               obtain ⟨c0, c1, c2, c9⟩ := r3.cells
               have hz3 : zs.length = S'.L.length := by rw [← e3, List.length_map]
               rw [e4, hz3] at c0
               have HL := Lib.hid (ps_last p3)
               have HC := Lib.hid (ps_count p3 (by omega) (by omega))
               have HI := fun w' (hb : Below w3.heap.size w3 w') => Lib.hid (ps_ids (p3.below hb) (by omega))
               have HJ := fun w' (hb : Below w3.heap.size w3 w') => Lib.hid (refIds_any (r3.below hb) (by omega) (by omega))
               have hT3 : Two w.heap.size w3 s d S' := ⟨Z, v3, zs, p3, r3, e3, ap3⟩
               have HT3 : Hid (Two w.heap.size w3 s d S') := Lib.hid hT3
               have HB3 := Lib.hid (HB.out.trans b3)
               have HE3 := Lib.hid e3
               have hd3 := r3.lt
               clear hT3 p3 r3 e3 ap3 c1 c9 b3 e4)
            | (go_at_call 11
               refine HL.out.mono ?_
               rintro e w4 ⟨rfl, rfl⟩)
            | (go_at_call 12
               refine HC.out.mono ?_
               rintro e w5 ⟨rfl, b5⟩
               have c0b := (b5.cell (p := ⟨d, 0, none⟩) hd3).trans c0
               have H5 := HI w5 b5)
            | (go_at_call 14
               refine H5.out.mono ?_
               rintro e w6 ⟨u6, rfl, i6, b6⟩
               have b36 := b5.trans (b6.mono b5.size)
               have H6 := HJ w6 b36)
            | (go_at_call 15
               refine H6.out.mono ?_
               rintro e w7 ⟨u7, rfl, i7, b7⟩
               have b37 := b36.trans (b7.mono b36.size)
               have i6' := (i6.below b7).on (F := fun _ => True) (fun _ _ => trivial)
               have i7' := i7.on (F := fun _ => True) (fun _ _ => trivial)
               rw [HE3.out] at i7'
               obtain ⟨o6, j6, rfl⟩ := i6.form
               obtain ⟨o7, j7, e7⟩ := i7.form
               rw [HE3.out] at e7
               subst e7
               have h7 := ints_any _ _ _ _ o6 j6 o7 j7 w7 (by have := idsL_len S'.L S'.given; omega) i6' i7'
               rw [decide_eq_true rfl] at h7
               have H7 := Lib.hid h7
               clear h7)
            | (go_at_call 13
               refine H7.out.mono ?_
               rintro e w8 ⟨rfl, n8, rfl⟩))
        all_goals
          have HB8 := Lib.hid (HB3.out.trans ((b37.trans (below_drewN _ w7 n8)).mono HB3.out.size))
          have hT8 := Two.below HT3.out (b37.trans (below_drewN _ w7 n8))
          have HT8 : Hid (Two w.heap.size (w7.drewN n8) s d S') := Lib.hid hT8
          clear hT8
          go_wp2_with fail
          go_roundw
          case rel => exact ⟨k + 1, by go_num, by omega, by omega, S', HF.out, Lib.hid ⟨HT8.out, HB8.out⟩⟩
          case measure => simp [RowKit.intOf]; omega
      · have e : k = 60 := by omega
        subst e
        have HW := Lib.hid (works_any wr)
        have HB := Lib.hid HR.out.2
        clear HR hf
        go_wp2_with (go_at_call 16; refine HW.out.mono ?_; rintro e w9 ⟨rfl, b9⟩)
        go_ret
        exact ⟨rfl, HB.out.trans (b9.mono HB.out.size)⟩
    · have e : k = xs.length := by omega
      subst e
      have HW := Lib.hid (works_any wr)
      have HB := Lib.hid HR.out.2
      clear HR hf
      go_wp2_with (go_at_call 16; refine HW.out.mono ?_; rintro e w9 ⟨rfl, b9⟩)
      go_ret
      exact ⟨rfl, HB.out.trans (b9.mono HB.out.size)⟩
theorem lawPlays_of (xs : List StV) (v : Value) (w : World) (h : StsOn w w.heap.size v xs) (hl : xs.length ≤ 2 ^ 62) :
    Calls Try.prog 3 #[v] w fun e w' => e = .returned (.bool true) ∧ Below w.heap.size w w' := by
  obtain ⟨o, j, rfl⟩ := h.form
  exact lawPlays_any xs o j w h hl
end Go.Proofs.Ytoeddgglfijkoaa.Char
