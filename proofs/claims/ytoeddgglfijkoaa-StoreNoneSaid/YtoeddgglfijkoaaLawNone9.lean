/- The law StoreNone: a store that is not there, and one that no call made, has nothing. -/
import Derived.Test.YtoeddgglfijkoaaWorks9
import Derived.Test.YtoeddgglfijkoaaNone9
import Derived.Test.YtoeddgglfijkoaaStepIn
import Derived.Test.YtoeddgglfijkoaaRefSame9
import Derived.Deep.RegionHeld3
namespace Go.Proofs.Ytoeddgglfijkoaa.Char
open Go.RowKit Go.Lib

set_option maxRecDepth 100000 in
set_option maxHeartbeats 16000000 in
theorem lawNone_any (x : StV) (w : World) (h : StOk w w.heap.size x) :
    Calls Try.prog 7 #[.agg ⟨stC x⟩] w fun e w' => e = .returned (.bool true) ∧ Below w.heap.size w w' := by
  obtain ⟨kd, id, time, cs, lv⟩ := x
  obtain ⟨o, j, hlv⟩ := h.form
  dsimp only at hlv
  subst hlv
  clear h
  unfold stC
  dsimp only
  go_enter Try.func7, Try.ntmps7
  go_wp2_with fail
  go_loopw [5] (fun v wr => ∃ k : Nat, v = .int .i64 (k : Int) ∧ k ≤ 2 ∧ Hid ((wr.cell? ⟨w.heap.size, 1, none⟩ = some (.int .i64 id) ∧ wr.cell? ⟨w.heap.size, 2, none⟩ = some (.int .u64 (time : Int)) ∧ wr.cell? ⟨w.heap.size, 3, none⟩ = some (.slice o cs.length j) ∧ wr.cell? ⟨w.heap.size + 1, 0, none⟩ = some (.pointer none) ∧ wr.cell? ⟨w.heap.size + 2, 0, none⟩ = some (.pointer none) ∧ wr.cell? ⟨w.heap.size + 2, 1, none⟩ = some (.pointer (some ⟨w.heap.size + 1, 0, none⟩))) ∧ w.heap.size + 3 ≤ wr.heap.size ∧ Below w.heap.size w wr)) (fun v _ => 2 - (RowKit.intOf v).toNat)
  case atStart => exact ⟨0, rfl, by omega, Lib.hid ⟨⟨by go_simp, by go_simp, by go_simp, by go_simp, by go_simp, by go_simp⟩, by simp, (((Below.refl _ _).alloc (Nat.le_refl _) _).alloc (by simp) _).alloc (by simp; omega) _⟩⟩
  case round =>
    obtain ⟨k, rfl, hk, HR⟩ := hrel
    by_cases hlt : k < 2
    · obtain ⟨⟨i0, i1, i2, i3, i4, i5⟩, hsz, hbw⟩ := HR.out
      obtain ⟨q, hq, hn⟩ : ∃ q, wr.cell? ⟨w.heap.size + 2, k, none⟩ = some (.pointer q) ∧ NoM wr (.pointer q) := by
        rcases (by omega : k = 0 ∨ k = 1) with rfl | rfl
        · exact ⟨_, i4, NoM.none _⟩
        · exact ⟨_, i5, NoM.zero i3⟩
      have HAT := Lib.hid (none_at hn id time)
      have HNM0 := Lib.hid hn
      have HBW := Lib.hid hbw
      have HI := Lib.hid (fun (W : World) (hb : Below wr.heap.size wr W) => (⟨(hb.cell (p := ⟨w.heap.size, 1, none⟩) (by simp; omega)).trans i0, (hb.cell (p := ⟨w.heap.size, 2, none⟩) (by simp; omega)).trans i1, (hb.cell (p := ⟨w.heap.size, 3, none⟩) (by simp; omega)).trans i2, (hb.cell (p := ⟨w.heap.size + 1, 0, none⟩) (by simp; omega)).trans i3, (hb.cell (p := ⟨w.heap.size + 2, 0, none⟩) (by simp; omega)).trans i4, (hb.cell (p := ⟨w.heap.size + 2, 1, none⟩) (by simp; omega)).trans i5⟩ : W.cell? ⟨w.heap.size, 1, none⟩ = some (.int .i64 id) ∧ W.cell? ⟨w.heap.size, 2, none⟩ = some (.int .u64 (time : Int)) ∧ W.cell? ⟨w.heap.size, 3, none⟩ = some (.slice o cs.length j) ∧ W.cell? ⟨w.heap.size + 1, 0, none⟩ = some (.pointer none) ∧ W.cell? ⟨w.heap.size + 2, 0, none⟩ = some (.pointer none) ∧ W.cell? ⟨w.heap.size + 2, 1, none⟩ = some (.pointer (some ⟨w.heap.size + 1, 0, none⟩))))
      have hz0 : (0 : Int) ≤ (k : Int) := by omega
      have hz1 : (k : Int) < 2 := by omega
      clear HR hn hbw i3 i4 i5
      go_wp2_with (first
        | (go_at_call 19
           refine HAT.out.mono ?_
           rintro e w3 ⟨rfl, b3⟩
           have c1 := fun ob => Lib.cell?_alloc_some ob ((b3.cell (p := ⟨w.heap.size, 1, none⟩) (by simp; omega)).trans i0)
           have hs3 := b3.size
           have HB3 := Lib.hid b3
           clear b3
           unfold rcV rcV0 rc0
           dsimp only))
      obtain ⟨W4, hW4⟩ : ∃ W4, W4 = w3.alloc (rcB rcV0) := ⟨_, rfl⟩
      have hb34 : Below wr.heap.size wr W4 := by rw [hW4]; exact HB3.out.alloc HB3.out.size _
      have hs4 : W4.heap.size = w3.heap.size + 1 := by rw [hW4]; simp
      have hk4 : W4.heap[w3.heap.size]? = some (rcB rcV0) := by rw [hW4]; exact World.alloc_heap_new w3 _
      obtain ⟨⟨t3, t4, t5, t6, t7, t8, t9⟩, _⟩ := rc_blk hk4
      dsimp only [rcV0, rc0] at t3 t4 t5 t6 t7 t8 t9
      obtain ⟨t0, t1, t2, _, _, _⟩ := HI.out W4 hb34
      have KS := Lib.hid (fun (W : World) (hb : Below W4.heap.size W4 W) => (⟨(hb.cell (p := ⟨w.heap.size, 1, none⟩) (by simp; omega)).trans t0, (hb.cell (p := ⟨w.heap.size, 2, none⟩) (by simp; omega)).trans t1, (hb.cell (p := ⟨w.heap.size, 3, none⟩) (by simp; omega)).trans t2, (hb.cell (p := ⟨w3.heap.size, 0, none⟩) (by simp; omega)).trans t3, (hb.cell (p := ⟨w3.heap.size, 1, none⟩) (by simp; omega)).trans t4, (hb.cell (p := ⟨w3.heap.size, 2, none⟩) (by simp; omega)).trans t5, (hb.cell (p := ⟨w3.heap.size, 3, none⟩) (by simp; omega)).trans t6, (hb.cell (p := ⟨w3.heap.size, 4, none⟩) (by simp; omega)).trans t7, (hb.cell (p := ⟨w3.heap.size, 5, none⟩) (by simp; omega)).trans t8, (hb.cell (p := ⟨w3.heap.size, 6, none⟩) (by simp; omega)).trans t9⟩ : W.cell? ⟨w.heap.size, 1, none⟩ = some (.int .i64 id) ∧ W.cell? ⟨w.heap.size, 2, none⟩ = some (.int .u64 (time : Int)) ∧ W.cell? ⟨w.heap.size, 3, none⟩ = some (.slice o cs.length j) ∧ W.cell? ⟨w3.heap.size, 0, none⟩ = some (.int .i64 0) ∧ W.cell? ⟨w3.heap.size, 1, none⟩ = some (.string (bs [])) ∧ W.cell? ⟨w3.heap.size, 2, none⟩ = some (.string (bs [])) ∧ W.cell? ⟨w3.heap.size, 3, none⟩ = some (.int .i64 0) ∧ W.cell? ⟨w3.heap.size, 4, none⟩ = some (.slice none 0 0) ∧ W.cell? ⟨w3.heap.size, 5, none⟩ = some (.slice none 0 0) ∧ W.cell? ⟨w3.heap.size, 6, none⟩ = some (.bool false)))
      have HNM := Lib.hid (fun (W : World) (hb : Below W4.heap.size W4 W) => HNM0.out.below (hb34.trans (hb.mono hb34.size)))
      have HS := fun w' (hb : Below W4.heap.size W4 w') => Lib.hid (refSame_any rc0 rc0 none 0 none 0 none 0 none 0 w' (fun _ => True) (fun _ => True) (IntsOn.nil _ _ _ _) (IntsOn.nil _ _ _ _) (IntsOn.nil _ _ _ _) (IntsOn.nil _ _ _ _) (by decide) (by decide))
      rw [decide_eq_true rfl] at HS
      have HW4 := Lib.hid hW4
      have HB34 := Lib.hid hb34
      unfold rcB rcV0 rc0 at HW4
      dsimp only at HW4
      have s4 := KS.out W4 (Below.refl _ _)
      clear t0 t1 t2 t3 t4 t5 t6 t7 t8 t9 hk4 hb34 hW4 c1
      rw [← HW4.out]
      refine (none_fresh (HNM.out _ (Below.refl _ _))).mono ?_
      rintro e w5 ⟨rfl, b5⟩
      obtain ⟨t0, t1, t2, t3, t4, t5, t6, t7, t8, t9⟩ := KS.out w5 b5
      go_wp2_with (first
          | (go_at_call 11
             refine (none_last (HNM.out _ b5)).mono ?_
             rintro e w6 ⟨rfl, q6⟩
             have b6 : Below W4.heap.size W4 w6 := b5.trans (q6.mono b5.size)
             obtain ⟨t0, t1, t2, t3, t4, t5, t6, t7, t8, t9⟩ := KS.out w6 b6)
          | (go_at_call 21
             refine (HS _ b6).out.mono ?_
             rintro e w7 ⟨rfl, q7⟩
             have b7 : Below W4.heap.size W4 w7 := b6.trans (q7.mono b6.size)
             obtain ⟨t0, t1, t2, t3, t4, t5, t6, t7, t8, t9⟩ := KS.out w7 b7)
          | (go_at_call 23
             refine (none_inst (HNM.out _ b7) time o cs.length j).mono ?_
             rintro e w8 ⟨rfl, q8⟩
             have b8 : Below W4.heap.size W4 w8 := b7.trans (q8.mono b7.size)
             obtain ⟨t0, t1, t2, t3, t4, t5, t6, t7, t8, t9⟩ := KS.out w8 b8)
          | (go_at_call 20
             refine (none_sweep (HNM.out _ b8) time).mono ?_
             rintro e w9 ⟨rfl, q9⟩
             have b9 : Below W4.heap.size W4 w9 := b8.trans (q9.mono b8.size)
             obtain ⟨t0, t1, t2, t3, t4, t5, t6, t7, t8, t9⟩ := KS.out w9 b9)
          | (go_at_call 22
             refine (none_vers (HNM.out _ b9) id).mono ?_
             rintro e w10 ⟨rfl, q10⟩
             have b10 : Below W4.heap.size W4 w10 := b9.trans (q10.mono b9.size)
             obtain ⟨t0, t1, t2, t3, t4, t5, t6, t7, t8, t9⟩ := KS.out w10 b10)
          | (go_at_call 12
             refine (none_count (HNM.out _ b10)).mono ?_
             rintro e w11 ⟨rfl, q11⟩
             have b11 : Below W4.heap.size W4 w11 := b10.trans (q11.mono b10.size)
             obtain ⟨t0, t1, t2, t3, t4, t5, t6, t7, t8, t9⟩ := KS.out w11 b11)
          | (go_at_call 14
             refine (none_ids (HNM.out _ b11)).mono ?_
             rintro e w12 ⟨rfl, q12⟩
             have b12 : Below W4.heap.size W4 w12 := b11.trans (q12.mono b11.size)
             obtain ⟨t0, t1, t2, t3, t4, t5, t6, t7, t8, t9⟩ := KS.out w12 b12))
      all_goals
        have hI := HI.out w12 (HB34.out.trans (b12.mono HB34.out.size))
        have hBB := HBW.out.trans ((HB34.out.trans (b12.mono HB34.out.size)).mono HBW.out.size)
        have hSz := b12.size
        have HH := Lib.hid (⟨hI, by omega, hBB⟩ : (w12.cell? ⟨w.heap.size, 1, none⟩ = some (.int .i64 id) ∧ w12.cell? ⟨w.heap.size, 2, none⟩ = some (.int .u64 (time : Int)) ∧ w12.cell? ⟨w.heap.size, 3, none⟩ = some (.slice o cs.length j) ∧ w12.cell? ⟨w.heap.size + 1, 0, none⟩ = some (.pointer none) ∧ w12.cell? ⟨w.heap.size + 2, 0, none⟩ = some (.pointer none) ∧ w12.cell? ⟨w.heap.size + 2, 1, none⟩ = some (.pointer (some ⟨w.heap.size + 1, 0, none⟩))) ∧ w.heap.size + 3 ≤ w12.heap.size ∧ Below w.heap.size w w12)
        clear hI hBB
        go_wp2_with fail
        go_roundw
        case rel => exact ⟨k + 1, by go_num, by omega, HH⟩
        case measure => simp [RowKit.intOf]; omega
    · have e : k = 2 := by omega
      subst e
      have HW := Lib.hid (works_any wr)
      have HB := Lib.hid HR.out.2.2
      clear HR
      go_wp2_with (first
        | (go_at_call 16; refine HW.out.mono ?_; rintro e w9 ⟨rfl, b9⟩))
      go_ret
      exact ⟨rfl, HB.out.trans (b9.mono HB.out.size)⟩
end Go.Proofs.Ytoeddgglfijkoaa.Char
