/- The walk of the document's own Char: what a reference's inner part stands for. -/
import Derived.Test.YtffbooapdlpocaaDoorUtf
import Derived.Test.YtffbooapdlpocaaDoorIn
import Derived.Test.YtffbooapdlpocaaDoorBs
namespace Go.Proofs.YtffbooapdlpocaaDoor.Char
open Go.RowKit Go.Lib

/-- the bytes of a reference's character; none, if it is none -/
def chB (o : Option Nat) : List UInt8 := match o with
  | some n => encodeRune (n : Int)
  | none => []
/-- what the document's Char leaves -/
def ChPost (s : List UInt8) (w : World) (e : Ending) (w' : World) : Prop := e = .returned (.string (bs (chB (chL s)))) ∧ Below w.heap.size w w'
theorem eq_bs5 (N l : List UInt8) (h : N = l) : ((bs N).toList == l) = true := by rw [bs_tl, h]; simp
theorem ne_bs5 (N l : List UInt8) (h : N ≠ l) : ((bs N).toList == l) = false := by rw [bs_tl]; simpa using h
theorem ch_no (s : List UInt8) (h : ([35] : List UInt8).isPrefixOf s = false) (n1 : s ≠ [97, 109, 112]) (n2 : s ≠ [108, 116]) (n3 : s ≠ [103, 116]) (n4 : s ≠ [113, 117, 111, 116]) (n5 : s ≠ [97, 112, 111, 115]) : chL s = none := by
  unfold chL
  rw [if_neg n1, if_neg n2, if_neg n3, if_neg n4, if_neg n5, h, if_neg, if_neg (by simp)]
  cases s with
  | nil => simp
  | cons c t =>
    intro h2
    simp [List.isPrefixOf] at h h2
    exact h h2.1
theorem ch_hex (d : List UInt8) : chL (35 :: 120 :: d) = chrN 16 d := by
  unfold chL
  rw [if_neg (by simp), if_neg (by simp), if_neg (by simp), if_neg (by simp), if_neg (by simp), if_pos (by simp [List.isPrefixOf])]
  rfl
theorem ch_dec (d : List UInt8) (h : d.head? ≠ some 120) : chL (35 :: d) = chrN 10 d := by
  unfold chL
  rw [if_neg (by simp), if_neg (by simp), if_neg (by simp), if_neg (by simp), if_neg (by simp), if_neg, if_pos (by simp [List.isPrefixOf])]
  · rfl
  · cases d with
    | nil => simp [List.isPrefixOf]
    | cons c t =>
      intro h2
      simp [List.isPrefixOf] at h2
      exact h (by simp [h2])
theorem cap_le (n : Nat) : capN n ≤ 0x110000 := by unfold capN; split <;> omega
theorem valC_stop {base : Nat} {n : Nat} {b : UInt8} {t : List UInt8} (h : ¬ dgV b < base) : valC base n (b :: t) = none := by unfold valC; rw [if_neg h]
theorem valC_go {base : Nat} {n : Nat} {b : UInt8} {t : List UInt8} (h : dgV b < base) : valC base n (b :: t) = valC base (capN (n * base + dgV b)) t := by
  conv => lhs; unfold valC
  rw [if_pos h]
theorem dgV_le (b : UInt8) : dgV b ≤ 99 := by
  unfold dgV
  have := b.toNat_lt
  split
  · omega
  · split
    · omega
    · split <;> omega
/-- the end of the document's Char: the digits from a place on -/
def Dg (base : Nat) (s : List UInt8) (fr : Nat) (R : Option Nat) : Prop := chB (chL s) = chB (R.bind fun n => if isC (n : Int) then some n else none) ∧ valC base 0 (s.drop fr) = R
theorem Dg.none {base : Nat} {s : List UInt8} {fr : Nat} (h : Dg base s fr Option.none) : chB (chL s) = [] := h.1
theorem Dg.no {base : Nat} {s : List UInt8} {fr n : Nat} (h : Dg base s fr (some n)) (hn : isC (n : Int) = false) : chB (chL s) = [] := by
  rw [h.1]
  show chB (if isC (n : Int) then some n else Option.none) = []
  rw [hn]
  rfl
theorem Dg.yes {base : Nat} {s : List UInt8} {fr n : Nat} (h : Dg base s fr (some n)) (hn : isC (n : Int) = true) : chB (chL s) = encodeRune (n : Int) := by
  rw [h.1]
  show chB (if isC (n : Int) then some n else Option.none) = _
  rw [hn]
  rfl
theorem Dg.of {base : Nat} (hb : base = 10 ∨ base = 16) {s d : List UInt8} {fr : Nat} (h : chL s = chrN base d) (hd : d ≠ []) (hs : s.drop fr = d) : Dg base s fr (valC base 0 (s.drop fr)) := by
  refine ⟨?_, rfl⟩
  rw [h, chrN_cap base hb d hd, hs]
def namesA : Array Value := #[.string ⟨#[97, 109, 112]⟩, .string ⟨#[108, 116]⟩, .string ⟨#[103, 116]⟩, .string ⟨#[113, 117, 111, 116]⟩, .string ⟨#[97, 112, 111, 115]⟩]

set_option maxRecDepth 100000 in
set_option maxHeartbeats 16000000 in
theorem char_any (s : List UInt8) (w : World) (hl : s.length ≤ 2000) :
    Calls Tryd.prog 21 #[.string (bs s)] w (ChPost s w) := by
  have hsz := bs_size s
  go_enter Tryd.func21, Tryd.ntmps21
  go_wp2_with fail
  go_loop [4] (fun i => ∃ k : Nat, i = .int .i64 (k : Int) ∧ k ≤ 5 ∧ Hid ((0 < k → s ≠ [97, 109, 112]) ∧ (1 < k → s ≠ [108, 116]) ∧ (2 < k → s ≠ [103, 116]) ∧ (3 < k → s ≠ [113, 117, 111, 116]) ∧ (4 < k → s ≠ [97, 112, 111, 115]))) (fun i => 5 - (RowKit.intOf i).toNat)
  case atStart => exact ⟨0, rfl, by omega, Lib.hid (by omega)⟩
  case round =>
    obtain ⟨k, rfl, hk, HN⟩ := hrel
    rcases (show k = 0 ∨ k = 1 ∨ k = 2 ∨ k = 3 ∨ k = 4 ∨ k = 5 by omega) with rfl | rfl | rfl | rfl | rfl | rfl
    · by_cases hn : s = [97, 109, 112]
      · have q := eq_bs5 s _ hn
        have hsl : ∀ wx, (Instr.slice 9 (.string ⟨#[38, 60, 62, 34, 39]⟩) (some (.int .i64 0)) (some (.int .i64 1)) none).run Tryd.prog wx = .ok (.string (bs [38])) wx := fun wx => slice_one [38, 60, 62, 34, 39] 0 (by decide) wx
        have HX : Hid (chB (chL s) = [38]) := Lib.hid (by rw [hn]; rfl)
        clear hn HN
        go_wp2_with fail
        go_ret
        exact ⟨by rw [HX.out]; rfl, (Below.refl _ _).alloc (Nat.le_refl _) _⟩
      · have q := ne_bs5 s _ hn
        have HN2 := Lib.hid hn
        clear hn
        go_wp2_with fail
        go_round
        case rel => exact ⟨1, rfl, by omega, Lib.hid ⟨fun _ => HN2.out, fun h => by omega, fun h => by omega, fun h => by omega, fun h => by omega⟩⟩
        case measure => simp [RowKit.intOf]
    · by_cases hn : s = [108, 116]
      · have q := eq_bs5 s _ hn
        have hsl : ∀ wx, (Instr.slice 9 (.string ⟨#[38, 60, 62, 34, 39]⟩) (some (.int .i64 1)) (some (.int .i64 2)) none).run Tryd.prog wx = .ok (.string (bs [60])) wx := fun wx => slice_one [38, 60, 62, 34, 39] 1 (by decide) wx
        have HX : Hid (chB (chL s) = [60]) := Lib.hid (by rw [hn]; rfl)
        clear hn HN
        go_wp2_with fail
        go_ret
        exact ⟨by rw [HX.out]; rfl, (Below.refl _ _).alloc (Nat.le_refl _) _⟩
      · have q := ne_bs5 s _ hn
        have HN2 := Lib.hid hn
        clear hn
        go_wp2_with fail
        go_round
        case rel => exact ⟨2, rfl, by omega, Lib.hid ⟨fun h => HN.out.1 (by omega), fun _ => HN2.out, fun h => by omega, fun h => by omega, fun h => by omega⟩⟩
        case measure => simp [RowKit.intOf]
    · by_cases hn : s = [103, 116]
      · have q := eq_bs5 s _ hn
        have hsl : ∀ wx, (Instr.slice 9 (.string ⟨#[38, 60, 62, 34, 39]⟩) (some (.int .i64 2)) (some (.int .i64 3)) none).run Tryd.prog wx = .ok (.string (bs [62])) wx := fun wx => slice_one [38, 60, 62, 34, 39] 2 (by decide) wx
        have HX : Hid (chB (chL s) = [62]) := Lib.hid (by rw [hn]; rfl)
        clear hn HN
        go_wp2_with fail
        go_ret
        exact ⟨by rw [HX.out]; rfl, (Below.refl _ _).alloc (Nat.le_refl _) _⟩
      · have q := ne_bs5 s _ hn
        have HN2 := Lib.hid hn
        clear hn
        go_wp2_with fail
        go_round
        case rel => exact ⟨3, rfl, by omega, Lib.hid ⟨fun h => HN.out.1 (by omega), fun h => HN.out.2.1 (by omega), fun _ => HN2.out, fun h => by omega, fun h => by omega⟩⟩
        case measure => simp [RowKit.intOf]
    · by_cases hn : s = [113, 117, 111, 116]
      · have q := eq_bs5 s _ hn
        have hsl : ∀ wx, (Instr.slice 9 (.string ⟨#[38, 60, 62, 34, 39]⟩) (some (.int .i64 3)) (some (.int .i64 4)) none).run Tryd.prog wx = .ok (.string (bs [34])) wx := fun wx => slice_one [38, 60, 62, 34, 39] 3 (by decide) wx
        have HX : Hid (chB (chL s) = [34]) := Lib.hid (by rw [hn]; rfl)
        clear hn HN
        go_wp2_with fail
        go_ret
        exact ⟨by rw [HX.out]; rfl, (Below.refl _ _).alloc (Nat.le_refl _) _⟩
      · have q := ne_bs5 s _ hn
        have HN2 := Lib.hid hn
        clear hn
        go_wp2_with fail
        go_round
        case rel => exact ⟨4, rfl, by omega, Lib.hid ⟨fun h => HN.out.1 (by omega), fun h => HN.out.2.1 (by omega), fun h => HN.out.2.2.1 (by omega), fun _ => HN2.out, fun h => by omega⟩⟩
        case measure => simp [RowKit.intOf]
    · by_cases hn : s = [97, 112, 111, 115]
      · have q := eq_bs5 s _ hn
        have hsl : ∀ wx, (Instr.slice 9 (.string ⟨#[38, 60, 62, 34, 39]⟩) (some (.int .i64 4)) (some (.int .i64 5)) none).run Tryd.prog wx = .ok (.string (bs [39])) wx := fun wx => slice_one [38, 60, 62, 34, 39] 4 (by decide) wx
        have HX : Hid (chB (chL s) = [39]) := Lib.hid (by rw [hn]; rfl)
        clear hn HN
        go_wp2_with fail
        go_ret
        exact ⟨by rw [HX.out]; rfl, (Below.refl _ _).alloc (Nat.le_refl _) _⟩
      · have q := ne_bs5 s _ hn
        have HN2 := Lib.hid hn
        clear hn
        go_wp2_with fail
        go_round
        case rel => exact ⟨5, rfl, by omega, Lib.hid ⟨fun h => HN.out.1 (by omega), fun h => HN.out.2.1 (by omega), fun h => HN.out.2.2.1 (by omega), fun h => HN.out.2.2.2.1 (by omega), fun _ => HN2.out⟩⟩
        case measure => simp [RowKit.intOf]
    · have m1 := HN.out.1 (by omega)
      have m2 := HN.out.2.1 (by omega)
      have m3 := HN.out.2.2.1 (by omega)
      have m4 := HN.out.2.2.2.1 (by omega)
      have m5 := HN.out.2.2.2.2 (by omega)
      clear HN
      by_cases h0 : ([35] : List UInt8).isPrefixOf s = true
      · obtain ⟨d, rfl⟩ : ∃ d, s = 35 :: d := by
          cases s with
          | nil => simp [List.isPrefixOf] at h0
          | cons c d => simp [List.isPrefixOf] at h0; exact ⟨d, by rw [← h0]⟩
        clear m1 m2 m3 m4 m5 h0 hsz
        have hz := bs_size (35 :: d)
        by_cases hx : d.head? = some 120
        · obtain ⟨t, rfl⟩ : ∃ t, d = 120 :: t := by
            cases d with
            | nil => cases hx
            | cons c t => simp at hx; exact ⟨t, by rw [hx]⟩
          clear hx
          have hz0 : 0 < (bs (35 :: 120 :: t)).size := by rw [hz]; simp
          have hz1 : 1 < (bs (35 :: 120 :: t)).size := by rw [hz]; simp
          have g0 : ((bs (35 :: 120 :: t))[0]'hz0).toNat = 35 := rfl
          have g1 : ((bs (35 :: 120 :: t))[1]'hz1).toNat = 120 := rfl
          by_cases ht : t = []
          · subst ht
            have HEND : Hid (chB (chL [35, 120]) = []) := Lib.hid rfl
            have hz2 : (bs [35, 120]).size = 2 := hz
            clear hz
            generalize bs [35, 120] = S at *
            go_wp2_with fail
            go_ret
            exact ⟨by rw [HEND.out]; rfl, (Below.refl _ _).alloc (Nat.le_refl _) _⟩
          · have hDg := Dg.of (.inr rfl) (fr := 2) (ch_hex t) ht rfl
            have hpos : 0 < t.length := List.length_pos_iff.2 ht
            have hz2 : 2 < (bs (35 :: 120 :: t)).size := by rw [hz]; simp; omega
            clear ht
            obtain ⟨S0, hS⟩ : ∃ S0, 35 :: 120 :: t = S0 := ⟨_, rfl⟩
            simp only [hS] at *
            clear hS
            obtain ⟨R, hR⟩ : ∃ R, valC 16 0 (S0.drop 2) = R := ⟨_, rfl⟩
            rw [hR] at hDg
            have HD := Lib.hid hDg
            have HR := Lib.hid hR
            have HG := Lib.hid (fun j (hj : j < (bs S0).size) => bs_get S0 j hj)
            clear hDg hR
            go_wp2_with fail
            go_loop [7, 8] (fun n k => ∃ (kk m : Nat) (a : Int), n = .int .i64 a ∧ k = .int .i64 (kk : Int) ∧ 2 ≤ kk ∧ kk ≤ (bs S0).size ∧ Hid (a = (m : Int) ∧ m ≤ 1114112 ∧ valC 16 m (S0.drop kk) = R)) (fun _ k => (bs S0).size - (RowKit.intOf k).toNat)
            case atStart => exact ⟨2, 0, 0, rfl, rfl, by omega, by omega, Lib.hid ⟨rfl, by omega, HR.out⟩⟩
            case round =>
              obtain ⟨kk, m, a, rfl, rfl, hf, hk, HM⟩ := hrel
              obtain ⟨ha, hm, hv⟩ := HM.out
              clear HM
              have a0 : 0 ≤ a := by omega
              have a1 : a ≤ 1114112 := by omega
              by_cases hlt : kk < (bs S0).size
              · have hgt := HG.out kk hlt
                rw [drop_cons S0 kk (by omega)] at hv
                generalize S0.getD kk 0 = b at *
                have hva := value_any b
                have hle := dgV_le b
                by_cases hd : dgV b < 16
                · rw [valC_go hd] at hv
                  have hcl := cap_le (m * 16 + dgV b)
                  generalize dgV b = dv at *
                  by_cases hov : 1114111 < a * 16 + (dv : Int)
                  · have HM2 : Hid ((1114112 : Int) = ((capN (m * 16 + dv) : Nat) : Int) ∧ capN (m * 16 + dv) ≤ 1114112 ∧ valC 16 (capN (m * 16 + dv)) (S0.drop (kk + 1)) = R) := Lib.hid ⟨by unfold capN; rw [if_pos (by omega)]; rfl, hcl, hv⟩
                    have HVA := Lib.hid hva
                    clear hv hcl ha hm hva
                    go_wp2_with fail
                    refine (HVA.out _).mono ?_
                    rintro e w' ⟨rfl, rfl⟩
                    clear HVA
                    go_wp2_with fail
                    go_round
                    case rel => exact ⟨kk + 1, _, _, rfl, by go_num, by omega, by omega, HM2⟩
                    case measure => simp [RowKit.intOf]; omega
                  · have HM2 : Hid (a * 16 + (dv : Int) = ((capN (m * 16 + dv) : Nat) : Int) ∧ capN (m * 16 + dv) ≤ 1114112 ∧ valC 16 (capN (m * 16 + dv)) (S0.drop (kk + 1)) = R) := Lib.hid ⟨by unfold capN; rw [if_neg (by omega)]; omega, hcl, hv⟩
                    have HVA := Lib.hid hva
                    clear hv hcl ha hm hva
                    go_wp2_with fail
                    refine (HVA.out _).mono ?_
                    rintro e w' ⟨rfl, rfl⟩
                    clear HVA
                    go_wp2_with fail
                    go_round
                    case rel => exact ⟨kk + 1, _, _, rfl, by go_num, by omega, by omega, HM2⟩
                    case measure => simp [RowKit.intOf]; omega
                · rw [valC_stop hd] at hv
                  have HEND : Hid (chB (chL S0) = []) := Lib.hid (Dg.none (by rw [hv]; exact HD.out))
                  have HVA := Lib.hid hva
                  generalize dgV b = dv at *
                  clear hv ha hm hva
                  go_wp2_with fail
                  refine (HVA.out _).mono ?_
                  rintro e w' ⟨rfl, rfl⟩
                  clear HVA
                  go_wp2_with fail
                  go_ret
                  exact ⟨by rw [HEND.out]; rfl, (Below.refl _ _).alloc (Nat.le_refl _) _⟩
              · rw [List.drop_eq_nil_of_le (by omega)] at hv
                have hv' : some m = R := hv
                cases hic : isC a with
                | false =>
                  have HEND : Hid (chB (chL S0) = []) := Lib.hid (Dg.no (n := m) (by rw [hv']; exact HD.out) (by rw [← ha]; exact hic))
                  have HIS := Lib.hid (fun W => refIs_any a W)
                  rw [hic] at HIS
                  clear hv hv' ha hm hic
                  go_wp2_with fail
                  refine (HIS.out _).mono ?_
                  rintro e w2 ⟨rfl, hb2⟩
                  go_wp2_with fail
                  go_ret
                  exact ⟨by rw [HEND.out]; rfl, ((Below.refl _ _).alloc (Nat.le_refl _) _).trans (hb2.mono (by simp))⟩
                | true =>
                  have HEND : Hid (chB (chL S0) = encodeRune a) := Lib.hid (by rw [ha]; exact Dg.yes (n := m) (by rw [hv']; exact HD.out) (by rw [← ha]; exact hic))
                  have HIS := Lib.hid (fun W => refIs_any a W)
                  have HUT := Lib.hid (fun W => utf_any a hic W)
                  rw [hic] at HIS
                  clear hv hv' ha hm hic
                  go_wp2_with fail
                  refine (HIS.out _).mono ?_
                  rintro e w2 ⟨rfl, hb2⟩
                  go_wp2_with fail
                  refine (HUT.out _).mono ?_
                  rintro e w3 ⟨rfl, hb3⟩
                  go_wp2_with fail
                  go_ret
                  exact ⟨by rw [HEND.out]; rfl, (((Below.refl _ _).alloc (Nat.le_refl _) _).trans (hb2.mono (by simp))).trans (hb3.mono (Nat.le_trans (by simp) hb2.size))⟩
        · have hz0 : 0 < (bs (35 :: d)).size := by rw [hz]; simp
          have g0 : ((bs (35 :: d))[0]'hz0).toNat = 35 := rfl
          by_cases hd0 : d = []
          · subst hd0
            have HEND : Hid (chB (chL [35]) = []) := Lib.hid rfl
            have hz2 : (bs [35]).size = 1 := hz
            clear hz hx
            generalize bs [35] = S at *
            go_wp2_with fail
            go_ret
            exact ⟨by rw [HEND.out]; rfl, (Below.refl _ _).alloc (Nat.le_refl _) _⟩
          · have hDg := Dg.of (.inl rfl) (fr := 1) (ch_dec d hx) hd0 rfl
            have hz1 : 1 < (bs (35 :: d)).size := by have := List.length_pos_iff.2 hd0; rw [hz]; simp; omega
            obtain ⟨n1, g1, q1⟩ : ∃ n1 : Nat, ((bs (35 :: d))[1]'hz1).toNat = n1 ∧ ((n1 : Int) == 120) = false := by
              cases d with
              | nil => exact absurd rfl hd0
              | cons c t =>
                refine ⟨c.toNat, rfl, ?_⟩
                rw [beq_eq_false_iff_ne]
                intro hh
                apply hx
                have h3 : c = 120 := UInt8.toNat_inj.1 (by rw [show (120 : UInt8).toNat = 120 from rfl]; omega)
                rw [h3]; rfl
            have hz5 : 1 < (bs (35 :: d)).size := hz1
            clear hd0 hx
            obtain ⟨S0, hS⟩ : ∃ S0, 35 :: d = S0 := ⟨_, rfl⟩
            simp only [hS] at *
            clear hS
            obtain ⟨R, hR⟩ : ∃ R, valC 10 0 (S0.drop 1) = R := ⟨_, rfl⟩
            rw [hR] at hDg
            have HD := Lib.hid hDg
            have HR := Lib.hid hR
            have HG := Lib.hid (fun j (hj : j < (bs S0).size) => bs_get S0 j hj)
            clear hDg hR
            go_wp2_with fail
            go_loop [7, 8] (fun n k => ∃ (kk m : Nat) (a : Int), n = .int .i64 a ∧ k = .int .i64 (kk : Int) ∧ 1 ≤ kk ∧ kk ≤ (bs S0).size ∧ Hid (a = (m : Int) ∧ m ≤ 1114112 ∧ valC 10 m (S0.drop kk) = R)) (fun _ k => (bs S0).size - (RowKit.intOf k).toNat)
            case atStart => exact ⟨1, 0, 0, rfl, rfl, by omega, by omega, Lib.hid ⟨rfl, by omega, HR.out⟩⟩
            case round =>
              obtain ⟨kk, m, a, rfl, rfl, hf, hk, HM⟩ := hrel
              obtain ⟨ha, hm, hv⟩ := HM.out
              clear HM
              have a0 : 0 ≤ a := by omega
              have a1 : a ≤ 1114112 := by omega
              by_cases hlt : kk < (bs S0).size
              · have hgt := HG.out kk hlt
                rw [drop_cons S0 kk (by omega)] at hv
                generalize S0.getD kk 0 = b at *
                have hva := value_any b
                have hle := dgV_le b
                by_cases hd : dgV b < 10
                · rw [valC_go hd] at hv
                  have hcl := cap_le (m * 10 + dgV b)
                  generalize dgV b = dv at *
                  by_cases hov : 1114111 < a * 10 + (dv : Int)
                  · have HM2 : Hid ((1114112 : Int) = ((capN (m * 10 + dv) : Nat) : Int) ∧ capN (m * 10 + dv) ≤ 1114112 ∧ valC 10 (capN (m * 10 + dv)) (S0.drop (kk + 1)) = R) := Lib.hid ⟨by unfold capN; rw [if_pos (by omega)]; rfl, hcl, hv⟩
                    have HVA := Lib.hid hva
                    clear hv hcl ha hm hva
                    go_wp2_with fail
                    refine (HVA.out _).mono ?_
                    rintro e w' ⟨rfl, rfl⟩
                    clear HVA
                    go_wp2_with fail
                    go_round
                    case rel => exact ⟨kk + 1, _, _, rfl, by go_num, by omega, by omega, HM2⟩
                    case measure => simp [RowKit.intOf]; omega
                  · have HM2 : Hid (a * 10 + (dv : Int) = ((capN (m * 10 + dv) : Nat) : Int) ∧ capN (m * 10 + dv) ≤ 1114112 ∧ valC 10 (capN (m * 10 + dv)) (S0.drop (kk + 1)) = R) := Lib.hid ⟨by unfold capN; rw [if_neg (by omega)]; omega, hcl, hv⟩
                    have HVA := Lib.hid hva
                    clear hv hcl ha hm hva
                    go_wp2_with fail
                    refine (HVA.out _).mono ?_
                    rintro e w' ⟨rfl, rfl⟩
                    clear HVA
                    go_wp2_with fail
                    go_round
                    case rel => exact ⟨kk + 1, _, _, rfl, by go_num, by omega, by omega, HM2⟩
                    case measure => simp [RowKit.intOf]; omega
                · rw [valC_stop hd] at hv
                  have HEND : Hid (chB (chL S0) = []) := Lib.hid (Dg.none (by rw [hv]; exact HD.out))
                  have HVA := Lib.hid hva
                  generalize dgV b = dv at *
                  clear hv ha hm hva
                  go_wp2_with fail
                  refine (HVA.out _).mono ?_
                  rintro e w' ⟨rfl, rfl⟩
                  clear HVA
                  go_wp2_with fail
                  go_ret
                  exact ⟨by rw [HEND.out]; rfl, (Below.refl _ _).alloc (Nat.le_refl _) _⟩
              · rw [List.drop_eq_nil_of_le (by omega)] at hv
                have hv' : some m = R := hv
                cases hic : isC a with
                | false =>
                  have HEND : Hid (chB (chL S0) = []) := Lib.hid (Dg.no (n := m) (by rw [hv']; exact HD.out) (by rw [← ha]; exact hic))
                  have HIS := Lib.hid (fun W => refIs_any a W)
                  rw [hic] at HIS
                  clear hv hv' ha hm hic
                  go_wp2_with fail
                  refine (HIS.out _).mono ?_
                  rintro e w2 ⟨rfl, hb2⟩
                  go_wp2_with fail
                  go_ret
                  exact ⟨by rw [HEND.out]; rfl, ((Below.refl _ _).alloc (Nat.le_refl _) _).trans (hb2.mono (by simp))⟩
                | true =>
                  have HEND : Hid (chB (chL S0) = encodeRune a) := Lib.hid (by rw [ha]; exact Dg.yes (n := m) (by rw [hv']; exact HD.out) (by rw [← ha]; exact hic))
                  have HIS := Lib.hid (fun W => refIs_any a W)
                  have HUT := Lib.hid (fun W => utf_any a hic W)
                  rw [hic] at HIS
                  clear hv hv' ha hm hic
                  go_wp2_with fail
                  refine (HIS.out _).mono ?_
                  rintro e w2 ⟨rfl, hb2⟩
                  go_wp2_with fail
                  refine (HUT.out _).mono ?_
                  rintro e w3 ⟨rfl, hb3⟩
                  go_wp2_with fail
                  go_ret
                  exact ⟨by rw [HEND.out]; rfl, (((Below.refl _ _).alloc (Nat.le_refl _) _).trans (hb2.mono (by simp))).trans (hb3.mono (Nat.le_trans (by simp) hb2.size))⟩
      · have HEND : Hid (chB (chL s) = []) := Lib.hid (by rw [ch_no s (Bool.eq_false_iff.2 h0) m1 m2 m3 m4 m5]; rfl)
        clear m1 m2 m3 m4 m5
        cases s with
        | nil =>
          have hz : (bs []).size = 0 := rfl
          clear h0 hsz
          generalize bs [] = S at *
          go_wp2_with fail
          go_ret
          exact ⟨by rw [HEND.out]; rfl, (Below.refl _ _).alloc (Nat.le_refl _) _⟩
        | cons c t =>
          have hz0 : 0 < (bs (c :: t)).size := by rw [hsz]; simp
          obtain ⟨n0, g0, q0⟩ : ∃ n0 : Nat, ((bs (c :: t))[0]'hz0).toNat = n0 ∧ ((n0 : Int) == 35) = false := by
            refine ⟨c.toNat, rfl, ?_⟩
            rw [beq_eq_false_iff_ne]
            intro hh
            apply h0
            have h3 : c = 35 := UInt8.toNat_inj.1 (by rw [show (35 : UInt8).toNat = 35 from rfl]; omega)
            rw [h3]; rfl
          have q1 : ((n0 : Int) != 35) = true := by rw [bne, q0]; rfl
          clear h0
          generalize bs (c :: t) = S at *
          go_wp2_with fail
          all_goals go_ret
          all_goals exact ⟨by rw [HEND.out]; rfl, (Below.refl _ _).alloc (Nat.le_refl _) _⟩
end Go.Proofs.YtffbooapdlpocaaDoor.Char
