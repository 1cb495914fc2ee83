/- The walks of package char's questions about a text. -/
import Derived.Test.YtaiglcjeikcboaaDoorWithin
import Derived.Test.YtaiglcjeikcboaaDoorPlain
import Derived.Lib.OthersKept
import Derived.WalkSmall
namespace Go.Proofs.YtaiglcjeikcboaaDoor.Char
open Go.RowKit

theorem width_pos (s : ByteArray) (pos : Nat) (h : pos < s.size) : 1 ≤ (Utf8.decode s pos).2 := by
  by_cases ha : (s[pos]'h).toNat < 128
  · rw [decode_ascii s pos h ha]
    exact Nat.le_refl _
  · exact (decode_high s pos h (by omega)).2

set_option maxHeartbeats 400000 in
theorem blank_any (s : ByteArray) (w : World) :
    Calls Tryd.prog 19 #[.string s] w fun e w' => e = .returned (.bool (allR spC s.data.toList)) ∧ Below w.heap.size w w' := by
  obtain ⟨R, hR⟩ : ∃ R, R = allR spC s.data.toList := ⟨_, rfl⟩
  rw [← hR]
  have HR := Lib.hid hR
  clear hR
  go_enter Tryd.func19, Tryd.ntmps19
  go_wp2_with fail
  go_loopw [] (fun wr => ∃ pos : Nat, wr.heap[w.heap.size]? = some (.stringIter s pos) ∧ Below w.heap.size w wr ∧ R = allR spC (s.data.toList.drop pos)) (fun wr => s.size - wr.iterPos w.heap.size)
  case atStart => exact ⟨0, World.iter_heap w s 0, (Below.refl _ _).alloc (Nat.le_refl _) _, by simpa using HR.out⟩
  case round =>
    obtain ⟨pos, hit, hbw, hr⟩ := hrel
    have hsz : w.heap.size < wr.heap.size := (Array.getElem?_eq_some_iff.1 hit).1
    have hip : wr.iterPos w.heap.size = pos := iterPos_of hit
    by_cases hp : pos < s.size
    · have hst := allR_at spC s pos hp
      have hwd := width_pos s pos hp
      have hnx : ∀ ty, (Instr.next (.pointer (some ⟨w.heap.size, 0, none⟩)) true ty).run Tryd.prog wr = _ := fun ty => Lib.run_next_any_at wr w.heap.size s pos ty hit hp
      have hit2 := Lib.iterAt_heap wr w.heap.size s pos (pos + (Utf8.decode s pos).2) hit
      have hbw2 := Lib.below_iterAt hbw (k := w.heap.size) (Nat.le_refl _) s (pos + (Utf8.decode s pos).2)
      generalize (Utf8.decode s pos).1 = r at hst hnx
      generalize (Utf8.decode s pos).2 = d at hst hnx hwd hit2 hbw2
      generalize wr.iterAt w.heap.size s (pos + d) = W1 at hnx hit2 hbw2
      rw [← hr] at hst
      have HS := Lib.hid hst
      have HI := Lib.hid hit2
      have HP := Lib.hid hip
      clear hst hr hit hit2 hip
      go_wp2_with fail
      refine (space_any (r : Int) W1).mono ?_
      rintro e W2 ⟨rfl, hb2⟩
      have hbw3 := hbw2.trans (hb2.mono hbw2.size)
      have hz1 : w.heap.size < W1.heap.size := (Array.getElem?_eq_some_iff.1 HI.out).1
      have hit3 : W2.heap[w.heap.size]? = some (.stringIter s (pos + d)) := (hb2.block _ hz1).trans HI.out
      have HI3 := Lib.hid hit3
      clear hit3
      generalize spC (r : Int) = v at HS
      cases v
      · go_wp2_with fail
        go_ret
        exact ⟨by rw [HS.out]; rfl, hbw3⟩
      · go_wp2_with fail
        go_roundw
        case rel => exact ⟨pos + d, HI3.out, hbw3, by rw [HS.out]; rfl⟩
        case measure =>
          rw [iterPos_of HI3.out, HP.out]
          omega
    · have hf := drop_end s pos hp
      rw [hf, allR_nil] at hr
      have hnx : ∀ ty, (Instr.next (.pointer (some ⟨w.heap.size, 0, none⟩)) true ty).run Tryd.prog wr = _ := fun ty => Lib.run_next_end_at wr w.heap.size s pos ty hit hp
      have HF := Lib.hid hr
      clear hf hr hit hip
      go_wp2_with fail
      go_ret
      exact ⟨by rw [HF.out]; rfl, hbw⟩
end Go.Proofs.YtaiglcjeikcboaaDoor.Char
