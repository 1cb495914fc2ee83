/- The walk of char.Text. -/
import Derived.Test.YtffbooapdlpocaaDoorValid
import Derived.Test.YtffbooapdlpocaaDoorIs
import Derived.Lib.OthersKept
import Derived.WalkSmall
namespace Go.Proofs.YtffbooapdlpocaaDoor.Char
open Go.RowKit

theorem width_pos (s : ByteArray) (pos : Nat) (h : pos < s.size) : 1 ≤ (Utf8.decode s pos).2 := by
  by_cases ha : (s[pos]'h).toNat < 128
  · rw [decode_ascii s pos h ha]
    exact Nat.le_refl _
  · exact (decode_high s pos h (by omega)).2

def txD (l : List UInt8) : Bool := Lib.validD l && allR isC l

set_option maxHeartbeats 400000 in
theorem text_any (s : ByteArray) (w : World) (hs : s.size ≤ 9223372036854775807) (hT : Tabs w) :
    Calls Tryd.prog 27 #[.string s] w fun e w' => e = .returned (.bool (txD s.data.toList)) ∧ Below w.heap.size w w' := by
  have hV := valid_any s w hs hT
  clear hT
  obtain ⟨R, hR⟩ : ∃ R, R = txD s.data.toList := ⟨_, rfl⟩
  rw [← hR]
  unfold txD at hR
  generalize Lib.validD s.data.toList = v at hV hR
  have HR := Lib.hid hR
  clear hR
  have HV := Lib.hid hV
  clear hV
  go_enter Tryd.func27, Tryd.ntmps27
  go_wp2_with fail
  refine HV.out.mono ?_
  rintro e w1 ⟨rfl, hb1⟩
  clear HV
  cases v
  · go_wp2_with fail
    go_ret
    exact ⟨by rw [HR.out]; rfl, hb1⟩
  · go_wp2_with fail
    go_loopw [] (fun wr => ∃ pos : Nat, wr.heap[w1.heap.size]? = some (.stringIter s pos) ∧ Below w.heap.size w wr ∧ R = allR isC (s.data.toList.drop pos)) (fun wr => s.size - wr.iterPos w1.heap.size)
    case atStart => exact ⟨0, World.iter_heap w1 s 0, hb1.alloc hb1.size _, by simpa using HR.out⟩
    case round =>
      obtain ⟨pos, hit, hbw, hr⟩ := hrel
      have hsz : w1.heap.size < wr.heap.size := (Array.getElem?_eq_some_iff.1 hit).1
      have hip : wr.iterPos w1.heap.size = pos := iterPos_of hit
      by_cases hp : pos < s.size
      · have hst := allR_at isC s pos hp
        have hwd := width_pos s pos hp
        have hnx : ∀ ty, (Instr.next (.pointer (some ⟨w1.heap.size, 0, none⟩)) true ty).run Tryd.prog wr = _ := fun ty => Lib.run_next_any_at wr w1.heap.size s pos ty hit hp
        have hit2 := Lib.iterAt_heap wr w1.heap.size s pos (pos + (Utf8.decode s pos).2) hit
        have hbw2 := Lib.below_iterAt hbw (k := w1.heap.size) hb1.size s (pos + (Utf8.decode s pos).2)
        generalize (Utf8.decode s pos).1 = r at hst hnx
        generalize (Utf8.decode s pos).2 = d at hst hnx hwd hit2 hbw2
        generalize wr.iterAt w1.heap.size s (pos + d) = W1 at hnx hit2 hbw2
        rw [← hr] at hst
        have HS := Lib.hid hst
        have HI := Lib.hid hit2
        have HP := Lib.hid hip
        clear hst hr hit hit2 hip
        go_wp2_with fail
        refine (is_any (r : Int) W1).mono ?_
        rintro e W2 ⟨rfl, hb2⟩
        have hbw3 := hbw2.trans (hb2.mono hbw2.size)
        have hz1 : w1.heap.size < W1.heap.size := (Array.getElem?_eq_some_iff.1 HI.out).1
        have hit3 : W2.heap[w1.heap.size]? = some (.stringIter s (pos + d)) := (hb2.block _ hz1).trans HI.out
        have HI3 := Lib.hid hit3
        clear hit3
        generalize isC (r : Int) = v at HS
        cases v
        · go_wp2_with fail
          go_ret
          exact ⟨by rw [HS.out]; rfl, hbw3⟩
        · go_wp2_with fail
          go_roundw
          case rel => exact ⟨pos + d, HI3.out, hbw3, by rw [HS.out]; rfl⟩
          case measure =>
            rw [iterPos_of HI3.out, HP.out]
            omega
      · have hf := drop_end s pos hp
        rw [hf, allR_nil] at hr
        have hnx : ∀ ty, (Instr.next (.pointer (some ⟨w1.heap.size, 0, none⟩)) true ty).run Tryd.prog wr = _ := fun ty => Lib.run_next_end_at wr w1.heap.size s pos ty hit hp
        have HF := Lib.hid hr
        clear hf hr hit hip
        go_wp2_with fail
        go_ret
        exact ⟨by rw [HF.out]; rfl, hbw⟩
end Go.Proofs.YtffbooapdlpocaaDoor.Char
