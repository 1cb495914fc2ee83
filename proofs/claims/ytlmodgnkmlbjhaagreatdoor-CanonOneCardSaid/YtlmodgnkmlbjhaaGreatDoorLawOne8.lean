import Derived.Test.YtlmodgnkmlbjhaaGreatDoorPkTot
import Derived.Test.YtlmodgnkmlbjhaaGreatDoorPkFew
import Derived.Test.YtlmodgnkmlbjhaaGreatDoorPkMk
namespace Go.Proofs.YtlmodgnkmlbjhaaGreatDoor
namespace Char
open Go.RowKit Go.Lib Go.Shelf
mutual
theorem eqT_is : ∀ a b : Tr, eqT a b = true → a = b
 | .mk kd nm tx ats ks, b, h => by
  rw [eqT_def, Bool.and_eq_true, Bool.and_eq_true, Bool.and_eq_true, Bool.and_eq_true, decide_eq_true_eq, decide_eq_true_eq, decide_eq_true_eq, decide_eq_true_eq] at h
  obtain ⟨⟨⟨⟨h1, h2⟩, h3⟩, h4⟩, h5⟩ := h
  have h6 := eqKs_is ks b.ks h5
  obtain ⟨kd', nm', tx', ats', ks'⟩ := b
  simp only [Tr.kd, Tr.nm, Tr.tx, Tr.ats, Tr.ks] at h1 h2 h3 h4 h6
  subst h1 h2 h3 h4 h6
  rfl
theorem eqKs_is : ∀ k l : List Tr, eqKs k l = true → k = l
 | [], [], _ => rfl
 | [], _ :: _, h => by rw [eqKs] at h; cases h
 | _ :: _, [], h => by rw [eqKs] at h; cases h
 | a :: r, b :: s, h => by
  rw [eqKs, Bool.and_eq_true] at h
  rw [eqT_is a b h.1, eqKs_is r s h.2]
end
mutual
theorem mx_of {N : Nat} : ∀ t : Tr, smT N t → mxT t ≤ 2 ^ 62
 | .mk kd nm tx ats ks, h => by
  have hd := smT_def.1 h
  have h1 : ats.length ≤ 2 ^ 43 := hd.2.2.1
  have h2 := mx_ofK ks hd.2.2.2.2.2
  rw [mxT]
  omega
theorem mx_ofK {N : Nat} : ∀ ks : List Tr, smK N ks → mxK ks ≤ 2 ^ 62
 | [], _ => by rw [mxK]; omega
 | k :: r, h => by
  rw [smK] at h
  have h1 := mx_of k h.1
  have h2 := mx_ofK r h.2
  rw [mxK]
  omega
end
theorem one_is {a b : Tr} (ha : rightD a = true) (hb : rightD b = true) : ((bs (mkT a)).toList == (bs (mkT b)).toList) = eqT a b := by
 rw [bs_tl, bs_tl]
 cases he : eqT a b with
 | true => rw [eqT_is a b he]; simp
 | false =>
  rw [beq_eq_false_iff_ne]
  intro h
  rw [mk_one ha hb h, eqT_self] at he
  cases he
set_option maxRecDepth 100000 in
set_option maxHeartbeats 16000000 in
theorem one_law (a b : Tr) (va vk ua uk : Value) (w : World) (hna : NdOn w (fun b => b < w.heap.size) a va vk) (hnb : NdOn w (fun b => b < w.heap.size) b ua uk) (hsa : smT (2 ^ 47) a) (hsb : smT (2 ^ 47) b) (hG : Gl6 w) :
  Calls Tryz.prog 6 #[ndV a va vk, ndV b ua uk] w fun e w' => e = .returned (.bool true) ∧ Below w.heap.size w w' := by
 obtain ⟨oaa, jaa, oak, jak, rfl, rfl⟩ := hna.form
 obtain ⟨oba, jba, obk, jbk, rfl, rfl⟩ := hnb.form
 obtain ⟨B, hB⟩ : ∃ B, B = w.heap.size := ⟨_, rfl⟩
 obtain ⟨W0, hW0⟩ : ∃ W0, W0 = w.alloc (.cells #[.int .i64 a.kd, .string (bs a.nm), .string (bs a.tx), .slice oaa a.ats.length jaa, .slice oak a.ks.length jak] 25) := ⟨_, rfl⟩
 have hb0 : Below w.heap.size w W0 := by rw [hW0]; exact (Below.refl _ _).alloc (Nat.le_refl _) _
 have hs0 : W0.heap.size = B + 1 := by rw [hW0, hB]; simp
 have hbk0 : W0.heap[B]? = some (.cells #[.int .i64 a.kd, .string (bs a.nm), .string (bs a.tx), .slice oaa a.ats.length jaa, .slice oak a.ks.length jak] 25 (0, 0)) := by rw [hW0, hB]; exact World.alloc_heap_new w _
 obtain ⟨W1, hW1⟩ : ∃ W1, W1 = W0.alloc (.cells #[.int .i64 b.kd, .string (bs b.nm), .string (bs b.tx), .slice oba b.ats.length jba, .slice obk b.ks.length jbk] 25) := ⟨_, rfl⟩
 have hb01 : Below W0.heap.size W0 W1 := by rw [hW1]; exact (Below.refl _ _).alloc (Nat.le_refl _) _
 have hb1 : Below w.heap.size w W1 := hb0.trans (hb01.mono hb0.size)
 have hs1 : W1.heap.size = B + 2 := by rw [hW1, World.size_alloc, hs0]
 have hbk1 : W1.heap[B]? = some (.cells #[.int .i64 a.kd, .string (bs a.nm), .string (bs a.tx), .slice oaa a.ats.length jaa, .slice oak a.ks.length jak] 25 (0, 0)) := (hb01.block B (by omega)).trans hbk0
 have hbk2 : W1.heap[B + 1]? = some (.cells #[.int .i64 b.kd, .string (bs b.nm), .string (bs b.tx), .slice oba b.ats.length jba, .slice obk b.ks.length jbk] 25 (0, 0)) := by rw [hW1, ← hs0]; exact World.alloc_heap_new W0 _
 have hqa : ∀ q : KeptT W1, q.at.heap[B]? = some (.cells #[.int .i64 a.kd, .string (bs a.nm), .string (bs a.tx), .slice oaa a.ats.length jaa, .slice oak a.ks.length jak] 25 (0, 0)) := fun q => (q.ok.block (B) (by omega)).trans hbk1
 have za0 : ∀ q : KeptT W1, q.at.cell? ⟨B, 0, none⟩ = some (.int .i64 a.kd) := fun q => cell_row (hqa q) rfl
 have za1 : ∀ q : KeptT W1, q.at.cell? ⟨B, 1, none⟩ = some (.string (bs a.nm)) := fun q => cell_row (hqa q) rfl
 have za2 : ∀ q : KeptT W1, q.at.cell? ⟨B, 2, none⟩ = some (.string (bs a.tx)) := fun q => cell_row (hqa q) rfl
 have za3 : ∀ q : KeptT W1, q.at.cell? ⟨B, 3, none⟩ = some (.slice oaa a.ats.length jaa) := fun q => cell_row (hqa q) rfl
 have za4 : ∀ q : KeptT W1, q.at.cell? ⟨B, 4, none⟩ = some (.slice oak a.ks.length jak) := fun q => cell_row (hqa q) rfl
 have hqb : ∀ q : KeptT W1, q.at.heap[B + 1]? = some (.cells #[.int .i64 b.kd, .string (bs b.nm), .string (bs b.tx), .slice oba b.ats.length jba, .slice obk b.ks.length jbk] 25 (0, 0)) := fun q => (q.ok.block (B + 1) (by omega)).trans hbk2
 have zb0 : ∀ q : KeptT W1, q.at.cell? ⟨B + 1, 0, none⟩ = some (.int .i64 b.kd) := fun q => cell_row (hqb q) rfl
 have zb1 : ∀ q : KeptT W1, q.at.cell? ⟨B + 1, 1, none⟩ = some (.string (bs b.nm)) := fun q => cell_row (hqb q) rfl
 have zb2 : ∀ q : KeptT W1, q.at.cell? ⟨B + 1, 2, none⟩ = some (.string (bs b.tx)) := fun q => cell_row (hqb q) rfl
 have zb3 : ∀ q : KeptT W1, q.at.cell? ⟨B + 1, 3, none⟩ = some (.slice oba b.ats.length jba) := fun q => cell_row (hqb q) rfl
 have zb4 : ∀ q : KeptT W1, q.at.cell? ⟨B + 1, 4, none⟩ = some (.slice obk b.ks.length jbk) := fun q => cell_row (hqb q) rfl
 have hup : ∀ q : KeptT W1, Below w.heap.size w q.at := fun q => hb1.trans (q.ok.mono hb1.size)
 obtain ⟨q0, hq0⟩ : ∃ q0 : KeptT W1, W1 = q0.at := ⟨⟨W1, Below.refl _ _⟩, rfl⟩
 have hona : ∀ q : KeptT W1, NdOn q.at (fun b => b < q.at.heap.size) a (.slice oaa a.ats.length jaa) (.slice oak a.ks.length jak) := fun q => hna.move (fun b hb _ => ⟨Nat.lt_of_lt_of_le hb (hup q).size, (hup q).block b hb⟩)
 have hFa : ∀ q : KeptT W1, Calls Tryz.prog 7 #[.agg #[.int .i64 a.kd, .string (bs a.nm), .string (bs a.tx), .slice oaa a.ats.length jaa, .slice oak a.ks.length jak]] q.at fun e w' => e = .returned (.bool (fewB a)) ∧ ∃ q' : KeptT W1, w' = q'.at := fun q => (fewF_any a _ _ q.at (hona q)).mono fun e w' h => ⟨h.1, q.on h.2⟩
 have honb : ∀ q : KeptT W1, NdOn q.at (fun b => b < q.at.heap.size) b (.slice oba b.ats.length jba) (.slice obk b.ks.length jbk) := fun q => hnb.move (fun b hb _ => ⟨Nat.lt_of_lt_of_le hb (hup q).size, (hup q).block b hb⟩)
 have hFb : ∀ q : KeptT W1, Calls Tryz.prog 7 #[.agg #[.int .i64 b.kd, .string (bs b.nm), .string (bs b.tx), .slice oba b.ats.length jba, .slice obk b.ks.length jbk]] q.at fun e w' => e = .returned (.bool (fewB b)) ∧ ∃ q' : KeptT W1, w' = q'.at := fun q => (fewF_any b _ _ q.at (honb q)).mono fun e w' h => ⟨h.1, q.on h.2⟩
 have hWK : ∀ q : KeptT W1, Calls Tryz.prog 9 #[] q.at fun e w' => e = .returned (.bool true) ∧ ∃ q' : KeptT W1, w' = q'.at := fun q => (works8_any q.at (hG.below (hup q))).mono fun e w' h => ⟨h.1, q.on h.2⟩
 have HW0 := Lib.hid hW0
 have HW1 := Lib.hid (hW1.symm.trans hq0)
 have HB := Lib.hid hB
 have HUP := Lib.hid hup
 have HFa := Lib.hid hFa
 have HFb := Lib.hid hFb
 have HWK := Lib.hid hWK
 have HOa := Lib.hid hona
 have HOb := Lib.hid honb
 have HSa := Lib.hid hsa
 have HSb := Lib.hid hsb
 have HG := Lib.hid hG
 clear hW0 hb0 hs0 hbk0 hW1 hb01 hb1 hs1 hbk1 hbk2 hqa hqb hq0 hB hna hnb hsa hsb hup hona honb hFa hFb hWK hG
 unfold ndV
 cases hfa : fewB a with
 | false =>
  rw [hfa] at HFa
  clear hfa
  go_enter Tryz.func6, Tryz.ntmps6
  go_wp2_with fail
  rw [← HB.out, ← HW0.out, HW1.out]
  go_wp2_with (first
   | (go_at_call 7; (with_reducible refine (HFa.out _).mono ?_); rintro e _ ⟨rfl, q, rfl⟩)
   | (go_at_call 9; (with_reducible refine (HWK.out _).mono ?_); rintro e _ ⟨rfl, q, rfl⟩))
  go_ret
  exact ⟨rfl, by first | exact HUP.out _ | (rw [HB.out]; exact HUP.out _)⟩
 | true =>
  cases hfb : fewB b with
  | false =>
   rw [hfb] at HFb
   rw [hfa] at HFa
   clear hfb
   go_enter Tryz.func6, Tryz.ntmps6
   go_wp2_with fail
   rw [← HB.out, ← HW0.out, HW1.out]
   go_wp2_with (first
    | (go_at_call 7; (with_reducible refine (HFa.out _).mono ?_); rintro e _ ⟨rfl, q, rfl⟩)
    | (go_at_call 7; (with_reducible refine (HFb.out _).mono ?_); rintro e _ ⟨rfl, q, rfl⟩)
    | (go_at_call 9; (with_reducible refine (HWK.out _).mono ?_); rintro e _ ⟨rfl, q, rfl⟩))
   go_ret
   exact ⟨rfl, by first | exact HUP.out _ | (rw [HB.out]; exact HUP.out _)⟩
  | true =>
   rw [hfa] at HFa
   rw [hfb] at HFb
   have hTa : ∀ q : KeptT W1, Calls Tryz.prog 8 #[.agg #[.int .i64 a.kd, .string (bs a.nm), .string (bs a.tx), .slice oaa a.ats.length jaa, .slice oak a.ks.length jak], .int .i64 5000] q.at fun e w' => e = .returned (.int .i64 (tT a : Int)) ∧ ∃ q' : KeptT W1, w' = q'.at := fun q => (total_any 2000 a _ _ q.at _ (fewB_cnt hfa) (HOa.out q) HSa.out (Nat.le_refl _)).mono fun e w' h => ⟨h.1, q.on h.2⟩
   have HTa := Lib.hid hTa
   clear hTa
   have hTb : ∀ q : KeptT W1, Calls Tryz.prog 8 #[.agg #[.int .i64 b.kd, .string (bs b.nm), .string (bs b.tx), .slice oba b.ats.length jba, .slice obk b.ks.length jbk], .int .i64 5000] q.at fun e w' => e = .returned (.int .i64 (tT b : Int)) ∧ ∃ q' : KeptT W1, w' = q'.at := fun q => (total_any 2000 b _ _ q.at _ (fewB_cnt hfb) (HOb.out q) HSb.out (Nat.le_refl _)).mono fun e w' h => ⟨h.1, q.on h.2⟩
   have HTb := Lib.hid hTb
   clear hTb
   by_cases h5a : tT a ≤ 5000
   rotate_left
   ·have k6a : decide ((5000 : Int) < (tT a : Int)) = true := decide_eq_true (by have := tot_n h5a; omega)
    clear h5a
    generalize (tT a : Int) = ta at *
    go_enter Tryz.func6, Tryz.ntmps6
    go_wp2_with fail
    rw [← HB.out, ← HW0.out, HW1.out]
    go_wp2_with (first
     | (go_at_call 7; (with_reducible refine (HFa.out _).mono ?_); rintro e _ ⟨rfl, q, rfl⟩)
     | (go_at_call 7; (with_reducible refine (HFb.out _).mono ?_); rintro e _ ⟨rfl, q, rfl⟩)
     | (go_at_call 8; (with_reducible refine (HTa.out _).mono ?_); rintro e _ ⟨rfl, q, rfl⟩)
     | (go_at_call 9; (with_reducible refine (HWK.out _).mono ?_); rintro e _ ⟨rfl, q, rfl⟩))
    go_ret
    exact ⟨rfl, by first | exact HUP.out _ | (rw [HB.out]; exact HUP.out _)⟩
   have k6a : decide ((5000 : Int) < (tT a : Int)) = false := decide_eq_false (by have := tot_i h5a; omega)
   by_cases h5b : tT b ≤ 5000
   rotate_left
   ·have k6b : decide ((5000 : Int) < (tT b : Int)) = true := decide_eq_true (by have := tot_n h5b; omega)
    clear h5b
    generalize (tT b : Int) = tb at *
    generalize (tT a : Int) = ta at *
    go_enter Tryz.func6, Tryz.ntmps6
    go_wp2_with fail
    rw [← HB.out, ← HW0.out, HW1.out]
    go_wp2_with (first
     | (go_at_call 7; (with_reducible refine (HFa.out _).mono ?_); rintro e _ ⟨rfl, q, rfl⟩)
     | (go_at_call 7; (with_reducible refine (HFb.out _).mono ?_); rintro e _ ⟨rfl, q, rfl⟩)
     | (go_at_call 8; (with_reducible refine (HTa.out _).mono ?_); rintro e _ ⟨rfl, q, rfl⟩)
     | (go_at_call 8; (with_reducible refine (HTb.out _).mono ?_); rintro e _ ⟨rfl, q, rfl⟩)
     | (go_at_call 9; (with_reducible refine (HWK.out _).mono ?_); rintro e _ ⟨rfl, q, rfl⟩))
    go_ret
    exact ⟨rfl, by first | exact HUP.out _ | (rw [HB.out]; exact HUP.out _)⟩
   have k6b : decide ((5000 : Int) < (tT b : Int)) = false := decide_eq_false (by have := tot_i h5b; omega)
   obtain ⟨hca, hsma, hza⟩ := gate_ok hfa h5a HSa.out
   have hRa : ∀ q : KeptT W1, Calls Tryz.prog 11 #[.agg #[.int .i64 a.kd, .string (bs a.nm), .string (bs a.tx), .slice oaa a.ats.length jaa, .slice oak a.ks.length jak]] q.at fun e w' => e = .returned (.bool (rightD a)) ∧ ∃ q' : KeptT W1, w' = q'.at := fun q => (refRights_any a _ _ q.at hca hza (HOa.out q) (smT_le (by omega) a hsma)).mono fun e w' h => ⟨h.1, q.on h.2⟩
   have HRa := Lib.hid hRa
   have hWa : ∀ q : KeptT W1, Calls Tryz.prog 10 #[.agg #[.int .i64 a.kd, .string (bs a.nm), .string (bs a.tx), .slice oaa a.ats.length jaa, .slice oak a.ks.length jak]] q.at fun e w' => e = .returned (.string (bs (wrL a))) ∧ ∃ q' : KeptT W1, w' = q'.at := fun q => (writeC_any a _ _ q.at (HOa.out q) (by omega) hsma (HG.out.below (HUP.out q))).mono fun e w' h => ⟨h.1, q.on h.2⟩
   have HWa := Lib.hid hWa
   obtain ⟨hcb, hsmb, hzb⟩ := gate_ok hfb h5b HSb.out
   have hRb : ∀ q : KeptT W1, Calls Tryz.prog 11 #[.agg #[.int .i64 b.kd, .string (bs b.nm), .string (bs b.tx), .slice oba b.ats.length jba, .slice obk b.ks.length jbk]] q.at fun e w' => e = .returned (.bool (rightD b)) ∧ ∃ q' : KeptT W1, w' = q'.at := fun q => (refRights_any b _ _ q.at hcb hzb (HOb.out q) (smT_le (by omega) b hsmb)).mono fun e w' h => ⟨h.1, q.on h.2⟩
   have HRb := Lib.hid hRb
   have hWb : ∀ q : KeptT W1, Calls Tryz.prog 10 #[.agg #[.int .i64 b.kd, .string (bs b.nm), .string (bs b.tx), .slice oba b.ats.length jba, .slice obk b.ks.length jbk]] q.at fun e w' => e = .returned (.string (bs (wrL b))) ∧ ∃ q' : KeptT W1, w' = q'.at := fun q => (writeC_any b _ _ q.at (HOb.out q) (by omega) hsmb (HG.out.below (HUP.out q))).mono fun e w' h => ⟨h.1, q.on h.2⟩
   have HWb := Lib.hid hWb
   have hSA : ∀ q : KeptT W1, Calls Tryz.prog 15 #[.agg #[.int .i64 a.kd, .string (bs a.nm), .string (bs a.tx), .slice oaa a.ats.length jaa, .slice oak a.ks.length jak], .agg #[.int .i64 b.kd, .string (bs b.nm), .string (bs b.tx), .slice oba b.ats.length jba, .slice obk b.ks.length jbk]] q.at fun e w' => e = .returned (.bool (eqT a b)) ∧ ∃ q' : KeptT W1, w' = q'.at := fun q => (refSame_any 2000 a b _ _ _ _ q.at _ _ hca (HOa.out q) (HOb.out q) (mx_of a hsma) (by omega)).mono fun e w' h => ⟨h.1, q.on h.2⟩
   have HSA := Lib.hid hSA
   clear h5a h5b hca hcb hsma hsmb hza hzb hRa hRb hWa hWb hSA hfa hfb
   generalize (tT a : Int) = ta at *
   generalize (tT b : Int) = tb at *
   cases hra : rightD a with
   | false =>
    rw [hra] at HRa
    clear hra
    go_enter Tryz.func6, Tryz.ntmps6
    go_wp2_with fail
    rw [← HB.out, ← HW0.out, HW1.out]
    go_wp2_with (first
     | (go_at_call 7; (with_reducible refine (HFa.out _).mono ?_); rintro e _ ⟨rfl, q, rfl⟩)
     | (go_at_call 7; (with_reducible refine (HFb.out _).mono ?_); rintro e _ ⟨rfl, q, rfl⟩)
     | (go_at_call 8; (with_reducible refine (HTa.out _).mono ?_); rintro e _ ⟨rfl, q, rfl⟩)
     | (go_at_call 8; (with_reducible refine (HTb.out _).mono ?_); rintro e _ ⟨rfl, q, rfl⟩)
     | (go_at_call 11; (with_reducible refine (HRa.out _).mono ?_); rintro e _ ⟨rfl, q, rfl⟩)
     | (go_at_call 9; (with_reducible refine (HWK.out _).mono ?_); rintro e _ ⟨rfl, q, rfl⟩))
    go_ret
    exact ⟨rfl, by first | exact HUP.out _ | (rw [HB.out]; exact HUP.out _)⟩
   | true =>
    cases hrb : rightD b with
    | false =>
     rw [hrb] at HRb
     rw [hra] at HRa
     clear hrb
     go_enter Tryz.func6, Tryz.ntmps6
     go_wp2_with fail
     rw [← HB.out, ← HW0.out, HW1.out]
     go_wp2_with (first
      | (go_at_call 7; (with_reducible refine (HFa.out _).mono ?_); rintro e _ ⟨rfl, q, rfl⟩)
      | (go_at_call 7; (with_reducible refine (HFb.out _).mono ?_); rintro e _ ⟨rfl, q, rfl⟩)
      | (go_at_call 8; (with_reducible refine (HTa.out _).mono ?_); rintro e _ ⟨rfl, q, rfl⟩)
      | (go_at_call 8; (with_reducible refine (HTb.out _).mono ?_); rintro e _ ⟨rfl, q, rfl⟩)
      | (go_at_call 11; (with_reducible refine (HRa.out _).mono ?_); rintro e _ ⟨rfl, q, rfl⟩)
      | (go_at_call 11; (with_reducible refine (HRb.out _).mono ?_); rintro e _ ⟨rfl, q, rfl⟩)
      | (go_at_call 9; (with_reducible refine (HWK.out _).mono ?_); rintro e _ ⟨rfl, q, rfl⟩))
     go_ret
     exact ⟨rfl, by first | exact HUP.out _ | (rw [HB.out]; exact HUP.out _)⟩
    | true =>
     rw [hra] at HRa
     rw [hrb] at HRb
     rw [wrL_right hra] at HWa
     rw [wrL_right hrb] at HWb
     have heq := one_is hra hrb
     clear hra hrb
     generalize mkT a = Ma at *
     generalize mkT b = Mb at *
     generalize eqT a b = E at *
     cases E
     all_goals
      go_enter Tryz.func6, Tryz.ntmps6
      go_wp2_with fail
      rw [← HB.out, ← HW0.out, HW1.out]
      go_wp2_with (first
       | (go_at_call 7; (with_reducible refine (HFa.out _).mono ?_); rintro e _ ⟨rfl, q, rfl⟩)
       | (go_at_call 7; (with_reducible refine (HFb.out _).mono ?_); rintro e _ ⟨rfl, q, rfl⟩)
       | (go_at_call 8; (with_reducible refine (HTa.out _).mono ?_); rintro e _ ⟨rfl, q, rfl⟩)
       | (go_at_call 8; (with_reducible refine (HTb.out _).mono ?_); rintro e _ ⟨rfl, q, rfl⟩)
       | (go_at_call 11; (with_reducible refine (HRa.out _).mono ?_); rintro e _ ⟨rfl, q, rfl⟩)
       | (go_at_call 11; (with_reducible refine (HRb.out _).mono ?_); rintro e _ ⟨rfl, q, rfl⟩)
       | (go_at_call 9; (with_reducible refine (HWK.out _).mono ?_); rintro e _ ⟨rfl, q, rfl⟩))
      refine wp_region_kept (KeptT W1) KeptT.at (by kernel_rfl) (by kernel_rfl) (q.on (Below.refl _ _).drew) ?_
      repeat (go_big_quiet_step (first
       | (go_at_call 10; rename_i q; with_reducible exact HWa.out q)
       | (go_at_call 10; rename_i q; with_reducible exact HWb.out q)
       | (go_at_call 15; rename_i q; with_reducible exact HSA.out q)
       | (go_at_call 9; rename_i q; with_reducible exact HWK.out q)))
      refine wpQuiet_nil ?_
      rintro w' ⟨q', rfl⟩
      go_wp2_with fail
      go_ret
      exact ⟨rfl, by first | exact HUP.out _ | (rw [HB.out]; exact HUP.out _)⟩
end Char
end Go.Proofs.YtlmodgnkmlbjhaaGreatDoor
