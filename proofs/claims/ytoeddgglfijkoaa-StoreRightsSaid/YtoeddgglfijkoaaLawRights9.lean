/- The law StoreRights: any record may be just if the document says so. -/
import Derived.Test.YtoeddgglfijkoaaWorks9
import Derived.Test.YtoeddgglfijkoaaQuietK
import Derived.Test.YtoeddgglfijkoaaRight9
import Derived.Test.YtoeddgglfijkoaaRefRight9
namespace Go.Proofs.Ytoeddgglfijkoaa.Char
open Go.RowKit Go.Lib

set_option maxRecDepth 100000 in
set_option maxHeartbeats 8000000 in
theorem lawRights_any (x : RcV) (F : Nat → Prop) (w : World) (h : RcOn w F x) (hs : RcSm x.1) :
    Calls Try.prog 4 #[rcV x] w fun e w' => e = .returned (.bool true) ∧ Below w.heap.size w w' := by
  obtain ⟨r, va, vb⟩ := x
  obtain ⟨ok, jk, oa, ja, e1, e2⟩ := h.form
  dsimp only at e1 e2 hs
  subst e1 e2
  obtain ⟨W1, hW1⟩ : ∃ W1, W1 = w.alloc (rcB (r, .slice ok r.ks.length jk, .slice oa r.ats.length ja)) := ⟨_, rfl⟩
  have hb1 : Below w.heap.size w W1 := by rw [hW1]; exact (Below.refl _ _).alloc (Nat.le_refl _) _
  have hs1 : W1.heap.size = w.heap.size + 1 := by rw [hW1]; simp
  have hk1 : W1.heap[w.heap.size]? = some (rcB (r, .slice ok r.ks.length jk, .slice oa r.ats.length ja)) := by rw [hW1]; exact World.alloc_heap_new w _
  obtain ⟨⟨d0, d1, d2, d3, d4, d5, d6⟩, _⟩ := rc_blk hk1
  dsimp only at d0 d1 d2 d3 d4 d5 d6
  have E0 := fun (q : KeptT W1) => (q.ok.cell (p := ⟨w.heap.size, 0, none⟩) (by simp; omega)).trans d0
  have E1 := fun (q : KeptT W1) => (q.ok.cell (p := ⟨w.heap.size, 1, none⟩) (by simp; omega)).trans d1
  have E2 := fun (q : KeptT W1) => (q.ok.cell (p := ⟨w.heap.size, 2, none⟩) (by simp; omega)).trans d2
  have E3 := fun (q : KeptT W1) => (q.ok.cell (p := ⟨w.heap.size, 3, none⟩) (by simp; omega)).trans d3
  have E4 := fun (q : KeptT W1) => (q.ok.cell (p := ⟨w.heap.size, 4, none⟩) (by simp; omega)).trans d4
  have E5 := fun (q : KeptT W1) => (q.ok.cell (p := ⟨w.heap.size, 5, none⟩) (by simp; omega)).trans d5
  have E6 := fun (q : KeptT W1) => (q.ok.cell (p := ⟨w.heap.size, 6, none⟩) (by simp; omega)).trans d6
  have hr : ∀ q : KeptT W1, RcOn q.at F (r, .slice ok r.ks.length jk, .slice oa r.ats.length ja) := fun q => (h.below hb1).below q.ok
  have C1 := fun (q : KeptT W1) => Lib.hid (right_any r ok jk oa ja q.at F (hr q).1 (hr q).2 (Nat.le_trans hs.1 (by decide)) (Nat.le_trans hs.2 (by decide)))
  have C2 := fun (q : KeptT W1) => Lib.hid (refRight_any r ok jk oa ja q.at F (hr q).1 (hr q).2 (Nat.le_trans hs.1 (by decide)) (Nat.le_trans hs.2 (by decide)))
  have C3 := fun (q : KeptT W1) => Lib.hid (works_any q.at)
  have HW1 := Lib.hid hW1
  unfold rcB at HW1
  dsimp only at HW1
  unfold rcV
  dsimp only
  clear d0 d1 d2 d3 d4 d5 d6 hk1 hW1 h hr
  generalize rightR r = R at C1 C2
  haveI : Nonempty (KeptT W1) := ⟨⟨W1, Below.refl _ _⟩⟩
  cases R
  all_goals
    go_enter Try.func4, Try.ntmps4
    go_wp2_with fail
    rw [← HW1.out]
    refine wp_region_kept (KeptT W1) KeptT.at (by kernel_rfl) (by kernel_rfl) ⟨⟨W1.drew, (Below.refl _ _).drew⟩, rfl⟩ ?_
    repeat (go_big_quiet_step (first
      | (go_at_call 17; rename_i q; with_reducible exact (C1 q).out.mono (fun e w' h => ⟨h.1, q.on h.2⟩))
      | (go_at_call 18; rename_i q; with_reducible exact (C2 q).out.mono (fun e w' h => ⟨h.1, q.on h.2⟩))
      | (go_at_call 16; rename_i q; with_reducible exact (C3 q).out.mono (fun e w' h => ⟨h.1, q.on h.2⟩))))
    refine wpQuiet_nil ?_
    rintro w' ⟨q, rfl⟩
    go_wp2_with fail
    go_ret
    exact ⟨rfl, hb1.trans (q.ok.mono (by omega))⟩
end Go.Proofs.Ytoeddgglfijkoaa.Char
