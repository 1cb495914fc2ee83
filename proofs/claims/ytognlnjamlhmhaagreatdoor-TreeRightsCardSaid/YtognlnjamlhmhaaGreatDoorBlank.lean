/- Blank -/
import Derived.Test.YtognlnjamlhmhaaGreatDoorPkIs
import Derived.Test.YtognlnjamlhmhaaGreatDoorPkRef
import Derived.Test.YtognlnjamlhmhaaGreatDoorPkMat
/- The walks of char.Blank, and of the document's own Blank. -/
namespace Go.Proofs.YtognlnjamlhmhaaGreatDoor.Char
open Go.RowKit Go.Lib

set_option maxHeartbeats 400000 in
theorem blank_any (s : ByteArray) (w : World) :
    Calls Tryz.prog 64 #[.string s] w fun e w' => e = .returned (.bool (allR spC s.data.toList)) ∧ Below w.heap.size w w' := by
  obtain ⟨R, hR⟩ : ∃ R, R = allR spC s.data.toList := ⟨_, rfl⟩
  rw [← hR]
  have HR := Lib.hid hR
  clear hR
  go_enter Tryz.func64, Tryz.ntmps64
  go_wp2_with fail
  go_loopw [] (fun wr => ∃ pos : Nat, wr.heap[w.heap.size]? = some (.stringIter s pos) ∧ Below w.heap.size w wr ∧ R = allR spC (s.data.toList.drop pos)) (fun wr => s.size - wr.iterPos w.heap.size)
  case atStart => exact ⟨0, World.iter_heap w s 0, (Below.refl _ _).alloc (Nat.le_refl _) _, by simpa using HR.out⟩
  case round =>
    obtain ⟨pos, hit, hbw, hr⟩ := hrel
    have hsz : w.heap.size < wr.heap.size := (Array.getElem?_eq_some_iff.1 hit).1
    have hip : wr.iterPos w.heap.size = pos := iterPos_of hit
    by_cases hp : pos < s.size
    · have hst := allR_at spC s pos hp
      have hwd := width_pos s pos hp
      have hnx : ∀ ty, (Instr.next (.pointer (some ⟨w.heap.size, 0, none⟩)) true ty).run Tryz.prog wr = _ := fun ty => Lib.run_next_any_at wr w.heap.size s pos ty hit hp
      have hit2 := Lib.iterAt_heap wr w.heap.size s pos (pos + (Utf8.decode s pos).2) hit
      have hbw2 := Lib.below_iterAt hbw (k := w.heap.size) (Nat.le_refl _) s (pos + (Utf8.decode s pos).2)
      generalize (Utf8.decode s pos).1 = r at hst hnx
      generalize (Utf8.decode s pos).2 = d at hst hnx hwd hit2 hbw2
      generalize wr.iterAt w.heap.size s (pos + d) = W1 at hnx hit2 hbw2
      rw [← hr] at hst
      have HS := Lib.hid hst
      have HI := Lib.hid hit2
      have HP := Lib.hid hip
      clear hst hr hit hit2 hip
      go_wp2_with fail
      refine (chSpace_any (r : Int) W1).mono ?_
      rintro e W2 ⟨rfl, hb2⟩
      have hbw3 := hbw2.trans (hb2.mono hbw2.size)
      have hz1 : w.heap.size < W1.heap.size := (Array.getElem?_eq_some_iff.1 HI.out).1
      have hit3 : W2.heap[w.heap.size]? = some (.stringIter s (pos + d)) := (hb2.block _ hz1).trans HI.out
      have HI3 := Lib.hid hit3
      clear hit3
      generalize spC (r : Int) = v at HS
      cases v
      · go_wp2_with fail
        go_ret
        exact ⟨by rw [HS.out]; rfl, hbw3⟩
      · go_wp2_with fail
        go_roundw
        case rel => exact ⟨pos + d, HI3.out, hbw3, by rw [HS.out]; rfl⟩
        case measure =>
          rw [iterPos_of HI3.out, HP.out]
          omega
    · have hf := drop_end s pos hp
      rw [hf, allR_nil] at hr
      have hnx : ∀ ty, (Instr.next (.pointer (some ⟨w.heap.size, 0, none⟩)) true ty).run Tryz.prog wr = _ := fun ty => Lib.run_next_end_at wr w.heap.size s pos ty hit hp
      have HF := Lib.hid hr
      clear hf hr hit hip
      go_wp2_with fail
      go_ret
      exact ⟨by rw [HF.out]; rfl, hbw⟩
/-- the document's Blank: of bytes -/
def blB (l : List UInt8) : Bool := l.all fun c => spC (c.toNat : Int)
theorem blB_step (s : ByteArray) (k : Nat) (h : k < s.size) : blB (s.data.toList.drop k) = (spC ((s[k]'h).toNat : Int) && blB (s.data.toList.drop (k + 1))) := by
  have el : s.data.toList.length = s.size := by rw [Array.length_toList]; rfl
  unfold blB
  rw [List.drop_eq_getElem_cons (by omega : k < s.data.toList.length), List.all_cons]
  rfl

set_option maxRecDepth 100000 in
set_option maxHeartbeats 2000000 in
theorem refBlank_any (s : ByteArray) (w : World) (hs : s.size ≤ 1048576) :
    Calls Tryz.prog 23 #[.string s] w fun e w' => e = .returned (.bool (allR spC s.data.toList)) ∧ w = w' := by
  rw [blank_bytes _ _ (Nat.le_refl _)]
  show Calls Tryz.prog 23 #[.string s] w fun e w' => e = .returned (.bool (blB s.data.toList)) ∧ w = w'
  obtain ⟨R, hR⟩ : ∃ R, blB s.data.toList = R := ⟨_, rfl⟩
  rw [hR]
  have HR := Lib.hid hR
  clear hR
  go_enter Tryz.func23, Tryz.ntmps23
  go_wp2_with fail
  go_loop [3] (fun i => ∃ k : Nat, k ≤ s.size ∧ i = .int .i64 (k : Int) ∧ Hid (blB (s.data.toList.drop k) = R)) (fun i => s.size - (RowKit.intOf i).toNat)
  case atStart => exact ⟨0, Nat.zero_le _, rfl, Lib.hid (by simpa using HR.out)⟩
  case round =>
    obtain ⟨k, hk, rfl, HB⟩ := hrel
    by_cases hlt : k < s.size
    · have hst := HB.out
      rw [blB_step s k hlt] at hst
      have hx3 := (s[k]'hlt).toNat_lt
      generalize hx : (s[k]'hlt).toNat = x at hst hx3
      have HS := Lib.hid hst
      clear hst HB
      go_wp2_with fail
      refine (refSpace_any (x : Int) w).mono ?_
      rintro e w2 ⟨rfl, rfl⟩
      generalize spC (x : Int) = c at HS
      cases c
      · go_wp2_with fail
        go_ret
        exact ⟨by rw [← HS.out]; rfl, rfl⟩
      · go_wp2_with fail
        go_round
        case rel => exact ⟨k + 1, by omega, by go_num, Lib.hid (by rw [← HS.out]; rfl)⟩
        case measure => simp [RowKit.intOf]; omega
    · have hst := HB.out
      rw [drop_end s k hlt] at hst
      have HS := Lib.hid hst
      clear hst HB
      go_wp2_with fail
      go_ret
      exact ⟨by rw [← HS.out]; rfl, rfl⟩
end Go.Proofs.YtognlnjamlhmhaaGreatDoor.Char
