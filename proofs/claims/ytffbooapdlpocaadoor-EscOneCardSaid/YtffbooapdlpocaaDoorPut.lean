/- The walks of esc's put, Put, PutAttr. -/
import Derived.Test.YtffbooapdlpocaaDoorStr5
import Derived.Test.YtffbooapdlpocaaDoorRefPut
namespace Go.Proofs.YtffbooapdlpocaaDoor.Char
open Go.RowKit Go.Lib Go.Shelf

/-- what a function answers for a byte: what stands for it, or nothing -/
def sfL (attr : Bool) (b : UInt8) : List UInt8 := if stdL attr b = [b] then [] else stdL attr b
theorem sf_plain {attr : Bool} {b : UInt8} (h : plainB b) : sfL attr b = [] := by unfold sfL; rw [if_pos (std_plain h)]
def SfPost (attr : Bool) (b : UInt8) (w : World) (e : Ending) (w' : World) : Prop := e = .returned (.string (bs (sfL attr b))) ∧ w' = w

theorem u8_no (b x : UInt8) (h : b ≠ x) : ((b.toNat : Int) == (x.toNat : Int)) = false := by
  rw [beq_eq_false_iff_ne]
  intro hh
  apply h
  apply UInt8.toNat_inj.1
  omega
set_option maxHeartbeats 4000000 in
theorem inText_any (b : UInt8) (w : World) : Calls Tryd.prog 18 #[.int .u8 (b.toNat : Int)] w (SfPost false b w) := by
  by_cases h1 : b = 38
  · subst h1
    show Calls Tryd.prog 18 #[.int .u8 38] w (SfPost false 38 w)
    go_enter Tryd.func18, Tryd.ntmps18
    go_wp2_with fail
    go_ret
    exact ⟨rfl, rfl⟩
  by_cases h2 : b = 60
  · subst h2
    show Calls Tryd.prog 18 #[.int .u8 60] w (SfPost false 60 w)
    go_enter Tryd.func18, Tryd.ntmps18
    go_wp2_with fail
    go_ret
    exact ⟨rfl, rfl⟩
  by_cases h3 : b = 62
  · subst h3
    show Calls Tryd.prog 18 #[.int .u8 62] w (SfPost false 62 w)
    go_enter Tryd.func18, Tryd.ntmps18
    go_wp2_with fail
    go_ret
    exact ⟨rfl, rfl⟩
  by_cases h4 : b = 13
  · subst h4
    show Calls Tryd.prog 18 #[.int .u8 13] w (SfPost false 13 w)
    go_enter Tryd.func18, Tryd.ntmps18
    go_wp2_with fail
    go_ret
    exact ⟨rfl, rfl⟩
  have HSF : Hid (sfL false b = []) := Lib.hid (by unfold sfL; rw [if_pos (by simp [stdL, h1, h2, h3, h4])])
  have q1 : ((b.toNat : Int) == 38) = false := u8_no b 38 h1
  have q2 : ((b.toNat : Int) == 60) = false := u8_no b 60 h2
  have q3 : ((b.toNat : Int) == 62) = false := u8_no b 62 h3
  have q4 : ((b.toNat : Int) == 13) = false := u8_no b 13 h4
  clear h1 h2 h3 h4
  generalize (b.toNat : Int) = z at *
  go_enter Tryd.func18, Tryd.ntmps18
  go_wp2_with fail
  go_ret
  exact ⟨by rw [HSF.out]; rfl, rfl⟩
set_option maxHeartbeats 4000000 in
theorem inAttr_any (b : UInt8) (w : World) : Calls Tryd.prog 19 #[.int .u8 (b.toNat : Int)] w (SfPost true b w) := by
  by_cases h1 : b = 38
  · subst h1
    show Calls Tryd.prog 19 #[.int .u8 38] w (SfPost true 38 w)
    go_enter Tryd.func19, Tryd.ntmps19
    go_wp2_with fail
    go_ret
    exact ⟨rfl, rfl⟩
  by_cases h2 : b = 60
  · subst h2
    show Calls Tryd.prog 19 #[.int .u8 60] w (SfPost true 60 w)
    go_enter Tryd.func19, Tryd.ntmps19
    go_wp2_with fail
    go_ret
    exact ⟨rfl, rfl⟩
  by_cases h3 : b = 34
  · subst h3
    show Calls Tryd.prog 19 #[.int .u8 34] w (SfPost true 34 w)
    go_enter Tryd.func19, Tryd.ntmps19
    go_wp2_with fail
    go_ret
    exact ⟨rfl, rfl⟩
  by_cases h4 : b = 9
  · subst h4
    show Calls Tryd.prog 19 #[.int .u8 9] w (SfPost true 9 w)
    go_enter Tryd.func19, Tryd.ntmps19
    go_wp2_with fail
    go_ret
    exact ⟨rfl, rfl⟩
  by_cases h5 : b = 10
  · subst h5
    show Calls Tryd.prog 19 #[.int .u8 10] w (SfPost true 10 w)
    go_enter Tryd.func19, Tryd.ntmps19
    go_wp2_with fail
    go_ret
    exact ⟨rfl, rfl⟩
  by_cases h6 : b = 13
  · subst h6
    show Calls Tryd.prog 19 #[.int .u8 13] w (SfPost true 13 w)
    go_enter Tryd.func19, Tryd.ntmps19
    go_wp2_with fail
    go_ret
    exact ⟨rfl, rfl⟩
  have HSF : Hid (sfL true b = []) := Lib.hid (by unfold sfL; rw [if_pos (by simp [stdL, h1, h2, h3, h4, h5, h6])])
  have q1 : ((b.toNat : Int) == 38) = false := u8_no b 38 h1
  have q2 : ((b.toNat : Int) == 60) = false := u8_no b 60 h2
  have q3 : ((b.toNat : Int) == 34) = false := u8_no b 34 h3
  have q4 : ((b.toNat : Int) == 9) = false := u8_no b 9 h4
  have q5 : ((b.toNat : Int) == 10) = false := u8_no b 10 h5
  have q6 : ((b.toNat : Int) == 13) = false := u8_no b 13 h6
  clear h1 h2 h3 h4 h5 h6
  generalize (b.toNat : Int) = z at *
  go_enter Tryd.func19, Tryd.ntmps19
  go_wp2_with fail
  go_ret
  exact ⟨by rw [HSF.out]; rfl, rfl⟩

/-- what the loop of put keeps -/
def PutK (w : World) (attr : Bool) (l : List UInt8) (k : Nat) (acc : List UInt8) (wr : World) : Prop :=
  Bld w.heap.size w.heap.size acc wr ∧ Below w.heap.size w wr ∧ k ≤ l.length ∧ acc.length ≤ 6 * k ∧ acc ++ putL attr (l.drop k) = putL attr l
theorem PutK.step {w : World} {attr : Bool} {l : List UInt8} {k : Nat} {acc c : List UInt8} {wr w2 : World} (h : PutK w attr l k acc wr) (hlt : k < l.length) (hc : c = stdL attr (l.getD k 0)) (hp : BldPost w.heap.size w.heap.size (acc ++ c) wr w2) : PutK w attr l (k + 1) (acc ++ c) w2 := by
  obtain ⟨h1, h2, h3, h4, h5⟩ := h
  have hle := stdL_le attr (l.getD k 0)
  rw [drop_cons l k hlt, putL_cons, ← List.append_assoc, ← hc] at h5
  refine ⟨hp.1, h2.trans hp.2, by omega, ?_, h5⟩
  rw [List.length_append, hc]
  omega

set_option maxRecDepth 100000 in
set_option maxHeartbeats 4000000 in
theorem put_any (g : Nat) (attr : Bool) (eg : ∀ args w, (callFunc g args).run Tryd.prog w = .ok (.enter g args) w) (hg : ∀ (b : UInt8) (W : World), Calls Tryd.prog g #[.int .u8 (b.toNat : Int)] W (SfPost attr b W)) (l : List UInt8) (w : World) (hl : l.length ≤ 2000) :
    Calls Tryd.prog 17 #[.string (bs l), .func (.func g) #[] #[]] w fun e w' => e = .returned (.string (bs (putL attr l))) ∧ Below w.heap.size w w' := by
  obtain ⟨X, hX⟩ : ∃ X, putL attr l = X := ⟨_, rfl⟩
  rw [hX]
  have HX := Lib.hid hX
  have HC := Lib.hid hg
  have hsz := bs_size l
  have HSZ := Lib.hid hsz
  have HK0 : Hid (PutK w attr l 0 [] (w.alloc (.cells #[.pointer none, .slice none 0 0] 46))) := Lib.hid ⟨Lib.IsBuilderF.of (Lib.fresh_isBuilder 46 5 w), (Below.refl _ _).alloc (Nat.le_refl _) _, Nat.zero_le _, by simp, rfl⟩
  clear hX hg
  go_enter Tryd.func17, Tryd.ntmps17
  go_wp2_with fail
  go_loopw [10] (fun i wr => ∃ (k : Nat) (acc : List UInt8), i = .int .i64 (k : Int) ∧ PutK w attr l k acc wr) (fun i _ => l.length - (RowKit.intOf i).toNat)
  case atStart => exact ⟨0, [], rfl, HK0.out⟩
  case round =>
    obtain ⟨k, acc, rfl, hk⟩ := hrel
    have HK := Lib.hid hk
    obtain ⟨hbl, hbw, hkl, hal, _⟩ := hk
    have hz := hbw.size
    have HB := Lib.hid hbl
    have HBW := Lib.hid hbw
    clear hbl hbw HK0
    by_cases hlt : k < l.length
    · have hlt' : k < (bs l).size := by rw [hsz]; exact hlt
      have hgt := bs_get l k hlt'
      obtain ⟨b, hb⟩ : ∃ b, b = l.getD k 0 := ⟨_, rfl⟩
      rw [← hb] at hgt
      have HBB := Lib.hid hb
      have HCB := Lib.hid (HC.out b)
      by_cases hst : stdL attr b = [b]
      · have hsf : sfL attr b = [] := by unfold sfL; rw [if_pos hst]
        have HS := Lib.hid (show [b] = stdL attr (l.getD k 0) by rw [← hb, hst])
        have HSF := Lib.hid hsf
        have i1 : (bs (sfL attr b)).toList = [] := by rw [hsf]; exact bs_tl []
        have i2 : (bs (sfL attr b)).toList.isEmpty = true := by rw [i1]; rfl
        clear hb hst hsf
        go_wp2_with fail
        refine (HCB.out _).mono ?_
        rintro e w1 ⟨rfl, rfl⟩
        go_wp2_with fail
        refine (byte_any w.heap.size w.heap.size acc b _ HB.out (by omega) hz).mono ?_
        rintro e w2 ⟨rfl, hp⟩
        have HK2 := Lib.hid (HK.out.step hlt HS.out hp)
        clear hp
        go_wp2_with fail
        go_roundw
        case rel => exact ⟨k + 1, _, by go_num, HK2.out⟩
        case measure => simp [RowKit.intOf]; omega
      · have hsf : sfL attr b = stdL attr b := by unfold sfL; rw [if_neg hst]
        have hle := stdL_le attr b
        have hne : sfL attr b ≠ [] := by
          rw [hsf]
          unfold stdL
          repeat' split
          all_goals simp
        have HS := Lib.hid (show sfL attr b = stdL attr (l.getD k 0) by rw [← hb, hsf])
        rw [← hsf] at hle
        obtain ⟨r, hr⟩ : ∃ r, sfL attr b = r := ⟨_, rfl⟩
        have HCR : Hid (∀ W, Calls Tryd.prog g #[.int .u8 (b.toNat : Int)] W fun e w' => e = .returned (.string (bs r)) ∧ w' = W) := Lib.hid (fun W => by rw [← hr]; exact HCB.out W)
        rw [hr] at hle hne HS
        have i1 : ¬ (bs r).toList = [] := by rw [bs_tl]; exact hne
        have i2 : (bs r).toList.isEmpty = false := by rw [bs_tl]; cases r with | nil => exact absurd rfl hne | cons _ _ => rfl
        clear hb hst hsf hne hr HCB HC
        go_wp2_with fail
        refine (HCR.out _).mono ?_
        rintro e w1 ⟨rfl, rfl⟩
        go_wp2_with fail
        refine (str_any w.heap.size w.heap.size acc r _ HB.out (by omega) hz).mono ?_
        rintro e w2 ⟨rfl, hp⟩
        have HK2 := Lib.hid (HK.out.step hlt HS.out hp)
        clear hp
        go_wp2_with fail
        go_roundw
        case rel => exact ⟨k + 1, _, by go_num, HK2.out⟩
        case measure => simp [RowKit.intOf]; omega
    · have hend : Hid (acc = X) := Lib.hid (by
        have h := HK.out.2.2.2.2
        rw [List.drop_eq_nil_of_le (by omega), putL_nil, List.append_nil] at h
        rw [h]; exact HX.out)
      go_wp2_with fail
      refine (out_any w.heap.size w.heap.size acc _ HB.out hz).mono ?_
      rintro e w2 ⟨rfl, hb2⟩
      go_wp2_with fail
      go_ret
      exact ⟨ret_str hend.out, HBW.out.trans hb2⟩

set_option maxHeartbeats 2000000 in
theorem Put_any (l : List UInt8) (w : World) (hl : l.length ≤ 2000) :
    Calls Tryd.prog 8 #[.string (bs l)] w fun e w' => e = .returned (.string (bs (putL false l))) ∧ Below w.heap.size w w' := by
  have HP := Lib.hid (put_any 18 false (enters_of Tryd.func18 (by kernel_rfl) rfl) inText_any l w hl)
  generalize putL false l = X at *
  go_enter Tryd.func8, Tryd.ntmps8
  go_wp2_with fail
  refine HP.out.mono ?_
  rintro e w2 ⟨rfl, hb2⟩
  go_wp2_with fail
  go_ret
  exact ⟨rfl, hb2⟩
set_option maxHeartbeats 2000000 in
theorem PutAttr_any (l : List UInt8) (w : World) (hl : l.length ≤ 2000) :
    Calls Tryd.prog 10 #[.string (bs l)] w fun e w' => e = .returned (.string (bs (putL true l))) ∧ Below w.heap.size w w' := by
  have HP := Lib.hid (put_any 19 true (enters_of Tryd.func19 (by kernel_rfl) rfl) inAttr_any l w hl)
  generalize putL true l = X at *
  go_enter Tryd.func10, Tryd.ntmps10
  go_wp2_with fail
  refine HP.out.mono ?_
  rintro e w2 ⟨rfl, hb2⟩
  go_wp2_with fail
  go_ret
  exact ⟨rfl, hb2⟩
end Go.Proofs.YtffbooapdlpocaaDoor.Char
