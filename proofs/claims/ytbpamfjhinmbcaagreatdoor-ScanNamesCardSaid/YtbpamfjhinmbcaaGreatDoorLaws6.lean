/- Laws6 -/
import Derived.Test.YtbpamfjhinmbcaaGreatDoorPkScan
import Derived.Test.YtbpamfjhinmbcaaGreatDoorPkTok
/- The walks of 'scan works', of the laws ScanPieces, ScanLines. -/
namespace Go.Proofs.YtbpamfjhinmbcaaGreatDoor.Char
open Go.RowKit Go.Lib

set_option maxRecDepth 100000 in
theorem w_scan : scanL [60, 97, 32, 120, 61, 39, 49, 39, 47, 62, 98] = .inr [⟨1, [97], [], [([120], [49])], true⟩, ⟨3, [], [98], [], false⟩] := by kernel_rfl
theorem scan_works (W : World) (hG : Gl6 W) : Calls Tryz.prog 8 #[.string ⟨#[60, 97, 32, 120, 61, 39, 49, 39, 47, 62, 98]⟩] W fun e w' =>
    ∃ (g j ja : Nat) (oa : Option Addr), e = .returned (.tuple #[.slice (some ⟨g, 0, none⟩) 2 j, .int .i64 0]) ∧ (w'.cell? ⟨g, 0, none⟩ = some (.int .i64 1) ∧ w'.cell? ⟨g, 4, none⟩ = some (.bool true) ∧ w'.cell? ⟨g, 3, none⟩ = some (.slice oa 1 ja) ∧ w'.cell? ⟨g, 7, none⟩ = some (.string ⟨#[98]⟩)) ∧ Below W.heap.size W w' := by
  refine (scan_any [60, 97, 32, 120, 61, 39, 49, 39, 47, 62, 98] W (by simp) hG).mono ?_
  intro e w' h
  unfold ScPost at h
  rw [w_scan] at h
  obtain ⟨xs, o, i, j, hx, rfl, ho, hb⟩ := h
  match xs, hx with
  | [], hx => cases hx
  | [_], hx => simp at hx
  | _ :: _ :: _ :: _, hx => simp at hx
  | [x1, x2], hx =>
    have hx1 : x1.1 = ⟨1, [97], [], [([120], [49])], true⟩ := (List.cons.inj hx).1
    have hx2 : x2.1 = ⟨3, [], [98], [], false⟩ := (List.cons.inj (List.cons.inj hx).2).1
    obtain rfl := ho.len
    obtain ⟨g, rfl, _, _, r0, r1, r2, r3, r4⟩ := ho.reads 0 (by simp)
    obtain ⟨g', hg', _, _, s0, s1, s2, s3, s4⟩ := ho.reads 1 (by simp)
    obtain rfl : g = g' := by simpa using hg'
    have a1 := ho.2 x1 (by simp)
    obtain ⟨oa, ia, ja, hv⟩ := a1.form
    rw [hv, hx1] at a1
    obtain rfl := a1.len
    simp only [List.getElem_cons_zero, List.getElem_cons_succ, hx1, hx2, hv] at r0 r1 r2 r3 r4 s0 s1 s2 s3 s4
    exact ⟨g, j, ja, oa, rfl, ⟨r0, r4, r3, s2⟩, hb⟩

set_option maxRecDepth 100000 in
set_option maxHeartbeats 4000000 in
theorem works_any (w : World) (hG : Gl6 w) : Calls Tryz.prog 7 #[] w fun e w' => e = .returned (.bool true) ∧ Below w.heap.size w w' := by
  have HS := Lib.hid (scan_works w hG)
  clear hG
  go_enter Tryz.func7, Tryz.ntmps7
  go_wp2_with fail
  refine HS.out.mono ?_
  rintro e w1 ⟨g, j, ja, oa, rfl, ⟨c0, c4, c3, c7⟩, hb⟩
  have HB := Lib.hid hb
  clear hb
  go_wp2_with fail
  go_ret
  exact ⟨rfl, HB.out⟩

set_option maxRecDepth 100000 in
set_option maxHeartbeats 4000000 in
theorem lines_law (s : ByteArray) (w : World) (hG : Gl6 w) :
    Calls Tryz.prog 4 #[.string s] w fun e w' => e = .returned (.bool true) ∧ Below w.heap.size w w' := by
  obtain ⟨l, rfl⟩ : ∃ l, s = bs l := ⟨s.data.toList, (bs_of s).symm⟩
  have hsz := bs_size l
  have HG := Lib.hid hG
  have CW := fun W hW => Lib.hid (works_any W hW)
  clear hG
  by_cases hl : l.length ≤ 4100
  · have hll := lines_le _ l (Nat.le_refl _)
    have C1 := fun W (hW : Gl6 W) => Lib.hid (lines_any l W (by omega) hW.1.2.1)
    have C2 := fun W => Lib.hid (refLines_any l W (by omega))
    have C3 := fun W (hW : Gl6 W) => Lib.hid (lines_any (linesL l) W (by omega) hW.1.2.1)
    rw [lines_idem] at C3
    generalize linesL l = L at *
    go_enter Tryz.func4, Tryz.ntmps4
    go_wp2_with fail
    refine (C1 _ HG.out).out.mono ?_
    rintro e w1 ⟨rfl, h1⟩
    have G1 := Lib.hid (HG.out.below h1)
    clear C1
    go_wp2_with fail
    refine (C2 _).out.mono ?_
    rintro e w2 ⟨rfl, rfl⟩
    clear C2
    go_wp2_with fail
    refine (C3 _ G1.out).out.mono ?_
    rintro e w3 ⟨rfl, h3⟩
    have G3 := Lib.hid (G1.out.below h3)
    clear C3
    go_wp2_with fail
    refine (CW _ G3.out).out.mono ?_
    rintro e w5 ⟨rfl, h5⟩
    go_wp2_with fail
    go_ret
    exact ⟨rfl, (h1.trans (h3.mono h1.size)).trans (h5.mono (Nat.le_trans h1.size h3.size))⟩
  · go_enter Tryz.func4, Tryz.ntmps4
    go_wp2_with fail
    refine (CW _ HG.out).out.mono ?_
    rintro e w1 ⟨rfl, h1⟩
    go_wp2_with fail
    go_ret
    exact ⟨rfl, h1⟩
end Go.Proofs.YtbpamfjhinmbcaaGreatDoor.Char
