/- The walks of Text, Name and of the statements' 'a name works'. -/
import Derived.Test.YtaiglcjeikcboaaDoorValid
namespace Go.Proofs.YtaiglcjeikcboaaDoor.Char
open Go.RowKit

def txD (l : List UInt8) : Bool := Lib.validD l && allR isC l

set_option maxHeartbeats 400000 in
theorem text_any (s : ByteArray) (w : World) (hs : s.size ≤ 9223372036854775807) (hT : Tabs w) :
    Calls Tryd.prog 17 #[.string s] w fun e w' => e = .returned (.bool (txD s.data.toList)) ∧ Below w.heap.size w w' := by
  have hV := valid_any s w hs hT
  clear hT
  obtain ⟨R, hR⟩ : ∃ R, R = txD s.data.toList := ⟨_, rfl⟩
  rw [← hR]
  unfold txD at hR
  generalize Lib.validD s.data.toList = v at hV hR
  have HR := Lib.hid hR
  clear hR
  have HV := Lib.hid hV
  clear hV
  go_enter Tryd.func17, Tryd.ntmps17
  go_wp2_with fail
  refine HV.out.mono ?_
  rintro e w1 ⟨rfl, hb1⟩
  clear HV
  cases v
  · go_wp2_with fail
    go_ret
    exact ⟨by rw [HR.out]; rfl, hb1⟩
  · go_wp2_with fail
    go_loopw [] (fun wr => ∃ pos : Nat, wr.heap[w1.heap.size]? = some (.stringIter s pos) ∧ Below w.heap.size w wr ∧ R = allR isC (s.data.toList.drop pos)) (fun wr => s.size - wr.iterPos w1.heap.size)
    case atStart => exact ⟨0, World.iter_heap w1 s 0, hb1.alloc hb1.size _, by simpa using HR.out⟩
    case round =>
      obtain ⟨pos, hit, hbw, hr⟩ := hrel
      have hsz : w1.heap.size < wr.heap.size := (Array.getElem?_eq_some_iff.1 hit).1
      have hip : wr.iterPos w1.heap.size = pos := iterPos_of hit
      by_cases hp : pos < s.size
      · have hst := allR_at isC s pos hp
        have hwd := width_pos s pos hp
        have hnx : ∀ ty, (Instr.next (.pointer (some ⟨w1.heap.size, 0, none⟩)) true ty).run Tryd.prog wr = _ := fun ty => Lib.run_next_any_at wr w1.heap.size s pos ty hit hp
        have hit2 := Lib.iterAt_heap wr w1.heap.size s pos (pos + (Utf8.decode s pos).2) hit
        have hbw2 := Lib.below_iterAt hbw (k := w1.heap.size) hb1.size s (pos + (Utf8.decode s pos).2)
        generalize (Utf8.decode s pos).1 = r at hst hnx
        generalize (Utf8.decode s pos).2 = d at hst hnx hwd hit2 hbw2
        generalize wr.iterAt w1.heap.size s (pos + d) = W1 at hnx hit2 hbw2
        rw [← hr] at hst
        have HS := Lib.hid hst
        have HI := Lib.hid hit2
        have HP := Lib.hid hip
        clear hst hr hit hit2 hip
        go_wp2_with fail
        refine (is_any (r : Int) W1).mono ?_
        rintro e W2 ⟨rfl, hb2⟩
        have hbw3 := hbw2.trans (hb2.mono hbw2.size)
        have hz1 : w1.heap.size < W1.heap.size := (Array.getElem?_eq_some_iff.1 HI.out).1
        have hit3 : W2.heap[w1.heap.size]? = some (.stringIter s (pos + d)) := (hb2.block _ hz1).trans HI.out
        have HI3 := Lib.hid hit3
        clear hit3
        generalize isC (r : Int) = v at HS
        cases v
        · go_wp2_with fail
          go_ret
          exact ⟨by rw [HS.out]; rfl, hbw3⟩
        · go_wp2_with fail
          go_roundw
          case rel => exact ⟨pos + d, HI3.out, hbw3, by rw [HS.out]; rfl⟩
          case measure =>
            rw [iterPos_of HI3.out, HP.out]
            omega
      · have hf := drop_end s pos hp
        rw [hf, allR_nil] at hr
        have hnx : ∀ ty, (Instr.next (.pointer (some ⟨w1.heap.size, 0, none⟩)) true ty).run Tryd.prog wr = _ := fun ty => Lib.run_next_end_at wr w1.heap.size s pos ty hit hp
        have HF := Lib.hid hr
        clear hf hr hit hip
        go_wp2_with fail
        go_ret
        exact ⟨by rw [HF.out]; rfl, hbw⟩
/-- the first of the runes may begin a name, where we are still ahead of it -/
def ahead (s : ByteArray) (pos : Nat) : Bool := if pos = 0 then stC ((Utf8.decode s 0).1 : Int) else true
def nmD (s : ByteArray) : Bool := decide (0 < s.size) && decide (s.size ≤ 32) && txD s.data.toList && (stC ((Utf8.decode s 0).1 : Int) && allR paC s.data.toList)

set_option maxHeartbeats 400000 in
theorem name_any (s : ByteArray) (w : World) (hs : s.size ≤ 9223372036854775807) (hT : Tabs w) :
    Calls Tryd.prog 21 #[.string s] w fun e w' => e = .returned (.bool (nmD s)) ∧ Below w.heap.size w w' := by
  have hV := text_any s w hs hT
  clear hT
  obtain ⟨R, hR⟩ : ∃ R, R = nmD s := ⟨_, rfl⟩
  rw [← hR]
  unfold nmD at hR
  by_cases h0 : s.size = 0
  · have HR := Lib.hid hR
    clear hR hV
    have h0b : ((s.size : Int) == 0) = true := by simp [h0]
    have H0 := Lib.hid h0
    clear h0
    go_enter Tryd.func21, Tryd.ntmps21
    go_wp2_with fail
    go_ret
    exact ⟨by rw [HR.out, H0.out]; rfl, Below.refl _ _⟩
  have h0b : ((s.size : Int) == 0) = false := by rw [beq_eq_false_iff_ne]; omega
  by_cases h32 : 32 < s.size
  · have h32z : (32 : Int) < (s.size : Int) := by omega
    have e32 : decide (s.size ≤ 32) = false := decide_eq_false (by omega)
    rw [e32, Bool.and_false, Bool.false_and, Bool.false_and] at hR
    have HR := Lib.hid hR
    clear hR hV e32 h32
    go_enter Tryd.func21, Tryd.ntmps21
    go_wp2_with fail
    go_ret
    exact ⟨by rw [HR.out]; rfl, Below.refl _ _⟩
  have h32z : ¬ (32 : Int) < (s.size : Int) := by omega
  rw [decide_eq_true (by omega : 0 < s.size), decide_eq_true (by omega : s.size ≤ 32), Bool.true_and, Bool.true_and] at hR
  generalize txD s.data.toList = v at hV hR
  have HR := Lib.hid hR
  clear hR
  have HV := Lib.hid hV
  clear hV
  go_enter Tryd.func21, Tryd.ntmps21
  go_wp2_with fail
  refine HV.out.mono ?_
  rintro e w1 ⟨rfl, hb1⟩
  clear HV
  cases v
  · go_wp2_with fail
    go_ret
    exact ⟨by rw [HR.out]; rfl, hb1⟩
  · go_wp2_with fail
    go_loopw [] (fun wr => ∃ pos : Nat, wr.heap[w1.heap.size]? = some (.stringIter s pos) ∧ Below w.heap.size w wr ∧ R = (ahead s pos && allR paC (s.data.toList.drop pos))) (fun wr => s.size - wr.iterPos w1.heap.size)
    case atStart => exact ⟨0, World.iter_heap w1 s 0, hb1.alloc hb1.size _, by simpa [ahead] using HR.out⟩
    case round =>
      obtain ⟨pos, hit, hbw, hr⟩ := hrel
      have hsz : w1.heap.size < wr.heap.size := (Array.getElem?_eq_some_iff.1 hit).1
      have hip : wr.iterPos w1.heap.size = pos := iterPos_of hit
      by_cases hp : pos < s.size
      · have hst := allR_at paC s pos hp
        have hwd := width_pos s pos hp
        have hnx : ∀ ty, (Instr.next (.pointer (some ⟨w1.heap.size, 0, none⟩)) true ty).run Tryd.prog wr = _ := fun ty => Lib.run_next_any_at wr w1.heap.size s pos ty hit hp
        have hit2 := Lib.iterAt_heap wr w1.heap.size s pos (pos + (Utf8.decode s pos).2) hit
        have hbw2 := Lib.below_iterAt hbw (k := w1.heap.size) hb1.size s (pos + (Utf8.decode s pos).2)
        have hah : ahead s pos = (if pos = 0 then stC ((Utf8.decode s pos).1 : Int) else true) := by
          unfold ahead
          by_cases h : pos = 0
          · rw [if_pos h, if_pos h, h]
          · rw [if_neg h, if_neg h]
        generalize (Utf8.decode s pos).1 = r at hst hnx hah
        have hd0 : ahead s (pos + (Utf8.decode s pos).2) = true := by unfold ahead; rw [if_neg (by omega)]
        generalize (Utf8.decode s pos).2 = d at hst hnx hwd hit2 hbw2 hd0
        generalize wr.iterAt w1.heap.size s (pos + d) = W1 at hnx hit2 hbw2
        rw [hst, hah] at hr
        have HS := Lib.hid hr
        have HI := Lib.hid hit2
        have HP := Lib.hid hip
        have HD := Lib.hid hd0
        clear hst hr hit hit2 hip hah hd0
        have hz1 : w1.heap.size < W1.heap.size := (Array.getElem?_eq_some_iff.1 HI.out).1
        have fin : ∀ W2, Below W1.heap.size W1 W2 → W2.heap[w1.heap.size]? = some (.stringIter s (pos + d)) ∧ Below w.heap.size w W2 := fun W2 hb2 => ⟨(hb2.block _ hz1).trans HI.out, hbw2.trans (hb2.mono hbw2.size)⟩
        by_cases hp0 : pos = 0
        · have hp0b : ((pos : Int) == 0) = true := by simp [hp0]
          have hs2 := HS.out
          rw [if_pos hp0] at hs2
          have HS2 := Lib.hid hs2
          clear hs2 HS hp0
          go_wp2_with fail
          refine (start_any (r : Int) W1).mono ?_
          rintro e W2 ⟨rfl, hb2⟩
          generalize stC (r : Int) = c at HS2
          cases c
          · go_wp2_with fail
            go_ret
            exact ⟨by rw [HS2.out]; rfl, (fin _ hb2).2⟩
          · go_wp2_with fail
            refine (part_any (r : Int) W2).mono ?_
            rintro e W3 ⟨rfl, hb3⟩
            have hb23 := hb2.trans (hb3.mono hb2.size)
            generalize paC (r : Int) = c2 at HS2
            cases c2
            · go_wp2_with fail
              go_ret
              exact ⟨by rw [HS2.out]; rfl, (fin _ hb23).2⟩
            · go_wp2_with fail
              go_roundw
              case rel => exact ⟨pos + d, (fin _ hb23).1, (fin _ hb23).2, by rw [HS2.out, HD.out]; rfl⟩
              case measure =>
                rw [iterPos_of (fin _ hb23).1, HP.out]
                omega
        · have hp0b : ((pos : Int) == 0) = false := by rw [beq_eq_false_iff_ne]; omega
          have hs2 := HS.out
          rw [if_neg hp0] at hs2
          have HS2 := Lib.hid hs2
          clear hs2 HS hp0
          go_wp2_with fail
          refine (part_any (r : Int) W1).mono ?_
          rintro e W2 ⟨rfl, hb2⟩
          generalize paC (r : Int) = c2 at HS2
          cases c2
          · go_wp2_with fail
            go_ret
            exact ⟨by rw [HS2.out]; rfl, (fin _ hb2).2⟩
          · go_wp2_with fail
            go_roundw
            case rel => exact ⟨pos + d, (fin _ hb2).1, (fin _ hb2).2, by rw [HS2.out, HD.out]; rfl⟩
            case measure =>
              rw [iterPos_of (fin _ hb2).1, HP.out]
              omega
      · have hf := drop_end s pos hp
        have hah : ahead s pos = true := by unfold ahead; rw [if_neg (by omega)]
        rw [hf, allR_nil, hah] at hr
        have hnx : ∀ ty, (Instr.next (.pointer (some ⟨w1.heap.size, 0, none⟩)) true ty).run Tryd.prog wr = _ := fun ty => Lib.run_next_end_at wr w1.heap.size s pos ty hit hp
        have HF := Lib.hid hr
        clear hf hr hit hip hah
        go_wp2_with fail
        go_ret
        exact ⟨by rw [HF.out]; rfl, hbw⟩
end Go.Proofs.YtaiglcjeikcboaaDoor.Char
