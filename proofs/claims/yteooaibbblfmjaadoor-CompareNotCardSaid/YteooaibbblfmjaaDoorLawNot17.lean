/- The law of CompareNot (written by gen_law17.py). -/
import Derived.Test.YteooaibbblfmjaaDoorSmall17
namespace Go.Proofs.YteooaibbblfmjaaDoor.Char
open Go.RowKit Go.Lib

set_option maxRecDepth 100000 in
set_option maxHeartbeats 8000000 in
theorem not_out (op : Int) (ta : Int) (oa : Option Addr) (na ja : Nat) (ba : Bool) (ga va : Int) (sa : ByteArray) (tb : Int) (ob : Option Addr) (nb jb : Nat) (bb : Bool) (gb vb : Int) (sb : ByteArray) (w : World) (hW : Hid (∀ W, Below w.heap.size w W → Calls Tryd.prog 6 #[] W fun e w' => e = .returned (.bool true) ∧ Below W.heap.size W w'))
    (h : (decide (sa.size ≤ 300) && decide (sb.size ≤ 300) && decide (na ≤ 40) && decide (nb ≤ 40)) = false ∨ ta < 2 ∨ 4 < ta ∨ tb < 2 ∨ 4 < tb) :
    Calls Tryd.prog 3 #[.agg #[.int .i64 op, .int .i64 ta, .slice oa na ja, .bool ba, .int .i64 ga, .int .i64 va, .string sa, .int .i64 tb, .slice ob nb jb, .bool bb, .int .i64 gb, .int .i64 vb, .string sb]] w fun e w' => e = .returned (.bool true) ∧ Below w.heap.size w w' := by
  have HB := Lib.hid (below_box w (.cells #[.int .i64 op, .int .i64 ta, .slice oa na ja, .bool ba, .int .i64 ga, .int .i64 va, .string sa, .int .i64 tb, .slice ob nb jb, .bool bb, .int .i64 gb, .int .i64 vb, .string sb] 28))
  have HS := Lib.hid fun (W : World) (hW : Below (w.alloc (.cells #[.int .i64 op, .int .i64 ta, .slice oa na ja, .bool ba, .int .i64 ga, .int .i64 va, .string sa, .int .i64 tb, .slice ob nb jb, .bool bb, .int .i64 gb, .int .i64 vb, .string sb] 28)).heap.size (w.alloc (.cells #[.int .i64 op, .int .i64 ta, .slice oa na ja, .bool ba, .int .i64 ga, .int .i64 va, .string sa, .int .i64 tb, .slice ob nb jb, .bool bb, .int .i64 gb, .int .i64 vb, .string sb] 28)) W) => three_cells (blk_call (heap_alloc_new w (.cells #[.int .i64 op, .int .i64 ta, .slice oa na ja, .bool ba, .int .i64 ga, .int .i64 va, .string sa, .int .i64 tb, .slice ob nb jb, .bool bb, .int .i64 gb, .int .i64 vb, .string sb] 28)) hW)
  have HBx := Lib.hid fun (W : World) (hW : Below (w.alloc (.cells #[.int .i64 op, .int .i64 ta, .slice oa na ja, .bool ba, .int .i64 ga, .int .i64 va, .string sa, .int .i64 tb, .slice ob nb jb, .bool bb, .int .i64 gb, .int .i64 vb, .string sb] 28)).heap.size (w.alloc (.cells #[.int .i64 op, .int .i64 ta, .slice oa na ja, .bool ba, .int .i64 ga, .int .i64 va, .string sa, .int .i64 tb, .slice ob nb jb, .bool bb, .int .i64 gb, .int .i64 vb, .string sb] 28)) W) => HB.out.trans (hW.mono HB.out.size)
  have HQ := Lib.hid fun W => small_any op ta oa na ja ba ga va sa tb ob nb jb bb gb vb sb W
  obtain ⟨q, hq⟩ : ∃ q, q = (decide (sa.size ≤ 300) && decide (sb.size ≤ 300) && decide (na ≤ 40) && decide (nb ≤ 40)) := ⟨_, rfl⟩
  rw [← hq] at HQ h
  cases q with
  | false =>
    clear hq h
    go_enter Tryd.func3, Tryd.ntmps3
    go_wp2_with (first
      | (go_at_call 5
         refine (HQ.out _).mono ?_
         rintro e w1 ⟨rfl, hb⟩
         have R1 := Lib.hid hb
         obtain ⟨c0, c1, c2, c3, c4, c5, c6, c7, c8, c9, c10, c11, c12⟩ := HS.out w1 hb
         clear hb)
      | (go_at_call 6
         refine (hW.out _ (HBx.out _ R1.out)).mono ?_
         rintro e w4 ⟨rfl, hb⟩
         have R4 := Lib.hid (R1.out.trans (hb.mono R1.out.size))
         clear hb))
    go_ret
    exact ⟨rfl, HBx.out _ R4.out⟩
  | true =>
    clear hq
    by_cases k0 : ta < 2
    · clear h
      go_enter Tryd.func3, Tryd.ntmps3
      go_wp2_with (first
        | (go_at_call 5
           refine (HQ.out _).mono ?_
           rintro e w1 ⟨rfl, hb⟩
           have R1 := Lib.hid hb
           obtain ⟨c0, c1, c2, c3, c4, c5, c6, c7, c8, c9, c10, c11, c12⟩ := HS.out w1 hb
           clear hb)
        | (go_at_call 6
           refine (hW.out _ (HBx.out _ R1.out)).mono ?_
           rintro e w4 ⟨rfl, hb⟩
           have R4 := Lib.hid (R1.out.trans (hb.mono R1.out.size))
           clear hb))
      go_ret
      exact ⟨rfl, HBx.out _ R4.out⟩
    · have u0 := k0
      by_cases k1 : 4 < ta
      · clear h
        go_enter Tryd.func3, Tryd.ntmps3
        go_wp2_with (first
          | (go_at_call 5
             refine (HQ.out _).mono ?_
             rintro e w1 ⟨rfl, hb⟩
             have R1 := Lib.hid hb
             obtain ⟨c0, c1, c2, c3, c4, c5, c6, c7, c8, c9, c10, c11, c12⟩ := HS.out w1 hb
             clear hb)
          | (go_at_call 6
             refine (hW.out _ (HBx.out _ R1.out)).mono ?_
             rintro e w4 ⟨rfl, hb⟩
             have R4 := Lib.hid (R1.out.trans (hb.mono R1.out.size))
             clear hb))
        go_ret
        exact ⟨rfl, HBx.out _ R4.out⟩
      · have u1 := k1
        by_cases k2 : tb < 2
        · clear h
          go_enter Tryd.func3, Tryd.ntmps3
          go_wp2_with (first
            | (go_at_call 5
               refine (HQ.out _).mono ?_
               rintro e w1 ⟨rfl, hb⟩
               have R1 := Lib.hid hb
               obtain ⟨c0, c1, c2, c3, c4, c5, c6, c7, c8, c9, c10, c11, c12⟩ := HS.out w1 hb
               clear hb)
            | (go_at_call 6
               refine (hW.out _ (HBx.out _ R1.out)).mono ?_
               rintro e w4 ⟨rfl, hb⟩
               have R4 := Lib.hid (R1.out.trans (hb.mono R1.out.size))
               clear hb))
          go_ret
          exact ⟨rfl, HBx.out _ R4.out⟩
        · have u2 := k2
          have k3 : 4 < tb := by
            rcases h with h | h | h | h | h
            · cases h
            · exact absurd h k0
            · exact absurd h k1
            · exact absurd h k2
            · exact h
          clear h u0 u1 u2
          go_enter Tryd.func3, Tryd.ntmps3
          go_wp2_with (first
            | (go_at_call 5
               refine (HQ.out _).mono ?_
               rintro e w1 ⟨rfl, hb⟩
               have R1 := Lib.hid hb
               obtain ⟨c0, c1, c2, c3, c4, c5, c6, c7, c8, c9, c10, c11, c12⟩ := HS.out w1 hb
               clear hb)
            | (go_at_call 6
               refine (hW.out _ (HBx.out _ R1.out)).mono ?_
               rintro e w4 ⟨rfl, hb⟩
               have R4 := Lib.hid (R1.out.trans (hb.mono R1.out.size))
               clear hb))
          go_ret
          exact ⟨rfl, HBx.out _ R4.out⟩
set_option maxRecDepth 100000 in
set_option maxHeartbeats 8000000 in
theorem not_in (op : Int) (ta : Int) (oa : Option Addr) (na ja : Nat) (ba : Bool) (ga va : Int) (sa : ByteArray) (tb : Int) (ob : Option Addr) (nb jb : Nat) (bb : Bool) (gb vb : Int) (sb : ByteArray) (w : World) (hW : Hid (∀ W, Below w.heap.size w W → Calls Tryd.prog 6 #[] W fun e w' => e = .returned (.bool true) ∧ Below W.heap.size W w'))
    (h : (decide (sa.size ≤ 300) && decide (sb.size ≤ 300) && decide (na ≤ 40) && decide (nb ≤ 40)) = true) (k0 : ¬ ta < 2) (k1 : ¬ 4 < ta) (k2 : ¬ tb < 2) (k3 : ¬ 4 < tb) (d : Bool)
    (hD : Hid (∀ W, Below w.heap.size w W → Calls Tryd.prog 7 #[.pointer none, .int .i64 3, .agg #[.int .i64 ta, .slice oa na ja, .bool ba, .int .i64 ga, .int .i64 va, .string sa], .agg #[.int .i64 tb, .slice ob nb jb, .bool bb, .int .i64 gb, .int .i64 vb, .string sb]] W fun e w' => e = .returned (.bool d) ∧ Below W.heap.size W w')) (hE : Hid (∀ W, Below w.heap.size w W → Calls Tryd.prog 7 #[.pointer none, .int .i64 4, .agg #[.int .i64 ta, .slice oa na ja, .bool ba, .int .i64 ga, .int .i64 va, .string sa], .agg #[.int .i64 tb, .slice ob nb jb, .bool bb, .int .i64 gb, .int .i64 vb, .string sb]] W fun e w' => e = .returned (.bool (!d)) ∧ Below W.heap.size W w')) :
    Calls Tryd.prog 3 #[.agg #[.int .i64 op, .int .i64 ta, .slice oa na ja, .bool ba, .int .i64 ga, .int .i64 va, .string sa, .int .i64 tb, .slice ob nb jb, .bool bb, .int .i64 gb, .int .i64 vb, .string sb]] w fun e w' => e = .returned (.bool true) ∧ Below w.heap.size w w' := by
  have HB := Lib.hid (below_box w (.cells #[.int .i64 op, .int .i64 ta, .slice oa na ja, .bool ba, .int .i64 ga, .int .i64 va, .string sa, .int .i64 tb, .slice ob nb jb, .bool bb, .int .i64 gb, .int .i64 vb, .string sb] 28))
  have HS := Lib.hid fun (W : World) (hW : Below (w.alloc (.cells #[.int .i64 op, .int .i64 ta, .slice oa na ja, .bool ba, .int .i64 ga, .int .i64 va, .string sa, .int .i64 tb, .slice ob nb jb, .bool bb, .int .i64 gb, .int .i64 vb, .string sb] 28)).heap.size (w.alloc (.cells #[.int .i64 op, .int .i64 ta, .slice oa na ja, .bool ba, .int .i64 ga, .int .i64 va, .string sa, .int .i64 tb, .slice ob nb jb, .bool bb, .int .i64 gb, .int .i64 vb, .string sb] 28)) W) => three_cells (blk_call (heap_alloc_new w (.cells #[.int .i64 op, .int .i64 ta, .slice oa na ja, .bool ba, .int .i64 ga, .int .i64 va, .string sa, .int .i64 tb, .slice ob nb jb, .bool bb, .int .i64 gb, .int .i64 vb, .string sb] 28)) hW)
  have HBx := Lib.hid fun (W : World) (hW : Below (w.alloc (.cells #[.int .i64 op, .int .i64 ta, .slice oa na ja, .bool ba, .int .i64 ga, .int .i64 va, .string sa, .int .i64 tb, .slice ob nb jb, .bool bb, .int .i64 gb, .int .i64 vb, .string sb] 28)).heap.size (w.alloc (.cells #[.int .i64 op, .int .i64 ta, .slice oa na ja, .bool ba, .int .i64 ga, .int .i64 va, .string sa, .int .i64 tb, .slice ob nb jb, .bool bb, .int .i64 gb, .int .i64 vb, .string sb] 28)) W) => HB.out.trans (hW.mono HB.out.size)
  have HQ := Lib.hid fun W => small_any op ta oa na ja ba ga va sa tb ob nb jb bb gb vb sb W
  obtain ⟨q, hq⟩ : ∃ q, q = (decide (sa.size ≤ 300) && decide (sb.size ≤ 300) && decide (na ≤ 40) && decide (nb ≤ 40)) := ⟨_, rfl⟩
  rw [← hq] at HQ h
  subst h
  clear hq
  cases d
  all_goals
    simp only [Bool.not_true, Bool.not_false] at hE
    go_enter Tryd.func3, Tryd.ntmps3
    go_wp2_with (first
      | (go_at_call 5
         refine (HQ.out _).mono ?_
         rintro e w1 ⟨rfl, hb⟩
         have R1 := Lib.hid hb
         obtain ⟨c0, c1, c2, c3, c4, c5, c6, c7, c8, c9, c10, c11, c12⟩ := HS.out w1 hb
         clear hb))
    have hl : w.heap.size < w1.heap.size := by have := R1.out.size; simp at this; omega
    have A1 := fun q : KeptT w1 => q.cell c1 hl
    have A2 := fun q : KeptT w1 => q.cell c2 hl
    have A3 := fun q : KeptT w1 => q.cell c3 hl
    have A4 := fun q : KeptT w1 => q.cell c4 hl
    have A5 := fun q : KeptT w1 => q.cell c5 hl
    have A6 := fun q : KeptT w1 => q.cell c6 hl
    have A7 := fun q : KeptT w1 => q.cell c7 hl
    have A8 := fun q : KeptT w1 => q.cell c8 hl
    have A9 := fun q : KeptT w1 => q.cell c9 hl
    have A10 := fun q : KeptT w1 => q.cell c10 hl
    have A11 := fun q : KeptT w1 => q.cell c11 hl
    have A12 := fun q : KeptT w1 => q.cell c12 hl
    have OK : Hid (∀ q : KeptT w1, Below w.heap.size w q.at) := Lib.hid (fun q => HBx.out _ (R1.out.trans (q.ok.mono R1.out.size)))
    clear c0 c1 c2 c3 c4 c5 c6 c7 c8 c9 c10 c11 c12 hl
    haveI : Nonempty (KeptT w1) := ⟨⟨w1, Below.refl _ _⟩⟩
    refine wp_region_kept (KeptT w1) KeptT.at (by kernel_rfl) (by kernel_rfl) ⟨⟨w1.drew, (Below.refl _ _).drew⟩, rfl⟩ ?_
    repeat (go_big_quiet_step (first
      | (go_at_call 7; rename_i q; with_reducible exact (hD.out q.at (OK.out q)).mono (fun e w' h => ⟨h.1, q.on h.2⟩))
      | (go_at_call 7; rename_i q; with_reducible exact (hE.out q.at (OK.out q)).mono (fun e w' h => ⟨h.1, q.on h.2⟩))
      | (go_at_call 6; rename_i q; with_reducible exact (hW.out q.at (OK.out q)).mono (fun e w' h => ⟨h.1, q.on h.2⟩))))
    refine wpQuiet_nil ?_
    rintro w' ⟨q2, rfl⟩
    have hbq := OK.out q2
    generalize q2.at = W1 at *
    clear A1 A2 A3 A4 A5 A6 A7 A8 A9 A10 A11 A12 OK
    go_wp2_with fail
    go_ret
    exact ⟨rfl, hbq⟩
theorem not_law (op : Int) (x y : Va) (w : World) (okx : okVa x) (oky : okVa y) (hT : Tabs w) : Calls Tryd.prog 3 #[threeV op x y] w fun e w' => e = .returned (.bool true) ∧ Below w.heap.size w w' := by
  have hW : Hid (∀ W, Below w.heap.size w W → Calls Tryd.prog 6 #[] W fun e w' => e = .returned (.bool true) ∧ Below W.heap.size W w') := Lib.hid fun W hb => works17_any W (hT.below hb)
  by_cases h : (decide ((bs x.s).size ≤ 300) && decide ((bs y.s).size ≤ 300) && decide (x.n ≤ 40) && decide (y.n ≤ 40)) = false ∨ x.t < 2 ∨ 4 < x.t ∨ y.t < 2 ∨ 4 < y.t
  · exact not_out op x.t x.o x.n x.j x.b x.g x.v (bs x.s) y.t y.o y.n y.j y.b y.g y.v (bs y.s) w hW h
  · have hs : (decide ((bs x.s).size ≤ 300) && decide ((bs y.s).size ≤ 300) && decide (x.n ≤ 40) && decide (y.n ≤ 40)) = true := by
      cases hh : (decide ((bs x.s).size ≤ 300) && decide ((bs y.s).size ≤ 300) && decide (x.n ≤ 40) && decide (y.n ≤ 40)) with
      | true => rfl
      | false => exact absurd (.inl hh) h
    have hs2 := hs
    simp only [Bool.and_eq_true, decide_eq_true_eq, bs_size] at hs2
    have hp : Plain3 x := by unfold Plain3; omega
    have hp2 : Plain3 y := by unfold Plain3; omega
    have D := fun op W (hb : Below w.heap.size w W) => do_any op x y W hp hp2 okx oky (by omega) (by omega) (hT.below hb)
    refine not_in op x.t x.o x.n x.j x.b x.g x.v (bs x.s) y.t y.o y.n y.j y.b y.g y.v (bs y.s) w hW hs (by omega) (by omega) (by omega) (by omega) (doL 3 x y) (Lib.hid fun W hb => D 3 W hb) (Lib.hid fun W hb => ?_)
    have := D 4 W hb
    rw [not_math] at this
    exact this
end Go.Proofs.YteooaibbblfmjaaDoor.Char
