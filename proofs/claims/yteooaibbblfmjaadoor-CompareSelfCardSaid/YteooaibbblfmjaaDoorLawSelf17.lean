/- The law of CompareSelf (written by gen_law17.py). -/
import Derived.Test.YteooaibbblfmjaaDoorWorks17
namespace Go.Proofs.YteooaibbblfmjaaDoor.Char
open Go.RowKit Go.Lib

set_option maxRecDepth 100000 in
set_option maxHeartbeats 8000000 in
theorem self_out (t : Int) (o : Option Addr) (n j : Nat) (b : Bool) (g v : Int) (S : ByteArray) (w : World) (hW : Hid (∀ W, Below w.heap.size w W → Calls Tryd.prog 6 #[] W fun e w' => e = .returned (.bool true) ∧ Below W.heap.size W w'))
    (h : 300 < S.size ∨ t < 2 ∨ 4 < t) : Calls Tryd.prog 4 #[.agg #[.int .i64 t, .slice o n j, .bool b, .int .i64 g, .int .i64 v, .string S]] w fun e w' => e = .returned (.bool true) ∧ Below w.heap.size w w' := by
  have HB := Lib.hid (below_box w (boxVa t o n j b g v S))
  by_cases h1 : 300 < S.size
  · have h1' : (300 : Int) < (S.size : Int) := by omega
    clear h h1
    go_enter Tryd.func4, Tryd.ntmps4
    go_wp2_with (go_at_call 6
                 refine (hW.out _ HB.out).mono ?_
                 rintro e w1 ⟨rfl, hb⟩
                 have HB1 := Lib.hid (HB.out.trans (hb.mono HB.out.size))
                 clear hb)
    go_ret
    exact ⟨rfl, HB1.out⟩
  · have h1' : ¬ (300 : Int) < (S.size : Int) := by omega
    by_cases h2 : t < 2
    · clear h h1
      go_enter Tryd.func4, Tryd.ntmps4
      go_wp2_with (go_at_call 6
                   refine (hW.out _ HB.out).mono ?_
                   rintro e w1 ⟨rfl, hb⟩
                   have HB1 := Lib.hid (HB.out.trans (hb.mono HB.out.size))
                   clear hb)
      go_ret
      exact ⟨rfl, HB1.out⟩
    · have h3 : (4 : Int) < t := by omega
      clear h h1
      go_enter Tryd.func4, Tryd.ntmps4
      go_wp2_with (go_at_call 6
                   refine (hW.out _ HB.out).mono ?_
                   rintro e w1 ⟨rfl, hb⟩
                   have HB1 := Lib.hid (HB.out.trans (hb.mono HB.out.size))
                   clear hb)
      go_ret
      exact ⟨rfl, HB1.out⟩
set_option maxRecDepth 100000 in
set_option maxHeartbeats 8000000 in
theorem self_in (t : Int) (o : Option Addr) (n j : Nat) (b : Bool) (g v : Int) (S : ByteArray) (w : World) (hW : Hid (∀ W, Below w.heap.size w W → Calls Tryd.prog 6 #[] W fun e w' => e = .returned (.bool true) ∧ Below W.heap.size W w'))
    (h1 : ¬ 300 < S.size) (h2 : ¬ t < 2) (h3 : ¬ 4 < t) (q : Bool) (hq : q = (t != 3 || (rightB g v && g != 1)))
    (hD : Hid (∀ W, Below w.heap.size w W → Calls Tryd.prog 7 #[.pointer none, .int .i64 3, .agg #[.int .i64 t, .slice o n j, .bool b, .int .i64 g, .int .i64 v, .string S], .agg #[.int .i64 t, .slice o n j, .bool b, .int .i64 g, .int .i64 v, .string S]] W fun e w' => e = .returned (.bool q) ∧ Below W.heap.size W w'))
    (hE : Hid (∀ W, Below w.heap.size w W → Calls Tryd.prog 7 #[.pointer none, .int .i64 5, .agg #[.int .i64 t, .slice o n j, .bool b, .int .i64 g, .int .i64 v, .string S], .agg #[.int .i64 t, .slice o n j, .bool b, .int .i64 g, .int .i64 v, .string S]] W fun e w' => e = .returned (.bool false) ∧ Below W.heap.size W w'))
    (hF : Hid (∀ W, Below w.heap.size w W → Calls Tryd.prog 7 #[.pointer none, .int .i64 7, .agg #[.int .i64 t, .slice o n j, .bool b, .int .i64 g, .int .i64 v, .string S], .agg #[.int .i64 t, .slice o n j, .bool b, .int .i64 g, .int .i64 v, .string S]] W fun e w' => e = .returned (.bool false) ∧ Below W.heap.size W w')) :
    Calls Tryd.prog 4 #[.agg #[.int .i64 t, .slice o n j, .bool b, .int .i64 g, .int .i64 v, .string S]] w fun e w' => e = .returned (.bool true) ∧ Below w.heap.size w w' := by
  have h1' : ¬ (300 : Int) < (S.size : Int) := by omega
  clear h1
  have HR := Lib.hid fun W => right_any g v W
  unfold aggV at HR
  have HB := Lib.hid (below_box w (boxVa t o n j b g v S))
  have HS := Lib.hid fun (W : World) (hW : Below (w.alloc (boxVa t o n j b g v S)).heap.size (w.alloc (boxVa t o n j b g v S)) W) => (boxVa_blk (blk_call (heap_alloc_new w (boxVa t o n j b g v S)) hW)).1
  have HBx := Lib.hid fun (W : World) (hW : Below (w.alloc (boxVa t o n j b g v S)).heap.size (w.alloc (boxVa t o n j b g v S)) W) => HB.out.trans (hW.mono HB.out.size)
  have R0 := Lib.hid (Below.refl (w.alloc (boxVa t o n j b g v S)).heap.size (w.alloc (boxVa t o n j b g v S)))
  unfold boxVa at HB HS HBx R0
  have go : ∀ hh : True, True := fun h => h
  clear go
  have key : ∀ (rr : Bool) (g1 : Bool), rightB g v = rr → (g != 1) = g1 → Calls Tryd.prog 4 #[.agg #[.int .i64 t, .slice o n j, .bool b, .int .i64 g, .int .i64 v, .string S]] w fun e w' => e = .returned (.bool true) ∧ Below w.heap.size w w' := by
    intro rr g1 hr hg
    rw [hr] at HR
    rw [hr, hg] at hq
    clear hr
    by_cases h33 : t = 3
    · have n33 : (t != 3) = false := by rw [h33]; rfl
      rw [n33, Bool.false_or] at hq
      clear h2 h3 h33
      have h2 : ¬ t < 2 := by have := bne_eq_false_iff_eq.1 n33; omega
      have h3 : ¬ 4 < t := by have := bne_eq_false_iff_eq.1 n33; omega
      cases rr with
      | true =>
        replace hq : q = g1 := hq
        subst hq
        go_enter Tryd.func4, Tryd.ntmps4
        go_wp2_with (first
          | (go_at_call 8
             refine (HR.out _).mono ?_
             rintro e w0 ⟨rfl, hb⟩
             have R0 := Lib.hid (R0.out.trans (hb.mono R0.out.size))
             obtain ⟨c0, c1, c2, c3, c4, c5⟩ := HS.out w0 R0.out
             clear hb)
          | (go_at_call 7
             with_reducible refine (hD.out _ (HBx.out _ R0.out)).mono ?_
             rintro e w1 ⟨rfl, hb⟩
             have R1 := Lib.hid (R0.out.trans (hb.mono R0.out.size))
             obtain ⟨c0, c1, c2, c3, c4, c5⟩ := HS.out w1 R1.out
             clear hb)
          | (go_at_call 7
             with_reducible refine (hE.out _ (HBx.out _ R1.out)).mono ?_
             rintro e w2 ⟨rfl, hb⟩
             have R2 := Lib.hid (R1.out.trans (hb.mono R1.out.size))
             obtain ⟨c0, c1, c2, c3, c4, c5⟩ := HS.out w2 R2.out
             clear hb)
          | (go_at_call 7
             with_reducible refine (hF.out _ (HBx.out _ R2.out)).mono ?_
             rintro e w3 ⟨rfl, hb⟩
             have R3 := Lib.hid (R2.out.trans (hb.mono R2.out.size))
             clear hb)
          | (go_at_call 6
             refine (hW.out _ (HBx.out _ R3.out)).mono ?_
             rintro e w4 ⟨rfl, hb⟩
             have R4 := Lib.hid (R3.out.trans (hb.mono R3.out.size))
             clear hb))
        go_ret
        exact ⟨by simp, HBx.out _ R4.out⟩
      | false =>
        replace hq : q = false := hq
        subst hq
        go_enter Tryd.func4, Tryd.ntmps4
        go_wp2_with (first
          | (go_at_call 8
             refine (HR.out _).mono ?_
             rintro e w0 ⟨rfl, hb⟩
             have R0 := Lib.hid (R0.out.trans (hb.mono R0.out.size))
             obtain ⟨c0, c1, c2, c3, c4, c5⟩ := HS.out w0 R0.out
             clear hb)
          | (go_at_call 7
             with_reducible refine (hD.out _ (HBx.out _ R0.out)).mono ?_
             rintro e w1 ⟨rfl, hb⟩
             have R1 := Lib.hid (R0.out.trans (hb.mono R0.out.size))
             obtain ⟨c0, c1, c2, c3, c4, c5⟩ := HS.out w1 R1.out
             clear hb)
          | (go_at_call 7
             with_reducible refine (hE.out _ (HBx.out _ R1.out)).mono ?_
             rintro e w2 ⟨rfl, hb⟩
             have R2 := Lib.hid (R1.out.trans (hb.mono R1.out.size))
             obtain ⟨c0, c1, c2, c3, c4, c5⟩ := HS.out w2 R2.out
             clear hb)
          | (go_at_call 7
             with_reducible refine (hF.out _ (HBx.out _ R2.out)).mono ?_
             rintro e w3 ⟨rfl, hb⟩
             have R3 := Lib.hid (R2.out.trans (hb.mono R2.out.size))
             clear hb)
          | (go_at_call 6
             refine (hW.out _ (HBx.out _ R3.out)).mono ?_
             rintro e w4 ⟨rfl, hb⟩
             have R4 := Lib.hid (R3.out.trans (hb.mono R3.out.size))
             clear hb))
        go_ret
        exact ⟨by simp, HBx.out _ R4.out⟩
    · have n33 : (t != 3) = true := bne_iff_ne.2 h33
      clear h33
      replace hq : q = true := by rw [hq, n33]; rfl
      subst hq
      go_enter Tryd.func4, Tryd.ntmps4
      go_wp2_with (first
        | (go_at_call 8
           refine (HR.out _).mono ?_
           rintro e w0 ⟨rfl, hb⟩
           have R0 := Lib.hid (R0.out.trans (hb.mono R0.out.size))
           obtain ⟨c0, c1, c2, c3, c4, c5⟩ := HS.out w0 R0.out
           clear hb)
        | (go_at_call 7
           with_reducible refine (hD.out _ (HBx.out _ R0.out)).mono ?_
           rintro e w1 ⟨rfl, hb⟩
           have R1 := Lib.hid (R0.out.trans (hb.mono R0.out.size))
           obtain ⟨c0, c1, c2, c3, c4, c5⟩ := HS.out w1 R1.out
           clear hb)
        | (go_at_call 7
           with_reducible refine (hE.out _ (HBx.out _ R1.out)).mono ?_
           rintro e w2 ⟨rfl, hb⟩
           have R2 := Lib.hid (R1.out.trans (hb.mono R1.out.size))
           obtain ⟨c0, c1, c2, c3, c4, c5⟩ := HS.out w2 R2.out
           clear hb)
        | (go_at_call 7
           with_reducible refine (hF.out _ (HBx.out _ R2.out)).mono ?_
           rintro e w3 ⟨rfl, hb⟩
           have R3 := Lib.hid (R2.out.trans (hb.mono R2.out.size))
           clear hb)
        | (go_at_call 6
           refine (hW.out _ (HBx.out _ R3.out)).mono ?_
           rintro e w4 ⟨rfl, hb⟩
           have R4 := Lib.hid (R3.out.trans (hb.mono R3.out.size))
           clear hb))
      go_ret
      exact ⟨by simp, HBx.out _ R4.out⟩
  exact key _ _ rfl rfl
theorem self_law (x : Va) (w : World) (ok : okVa x) (hT : Tabs w) : Calls Tryd.prog 4 #[vaV x] w fun e w' => e = .returned (.bool true) ∧ Below w.heap.size w w' := by
  have hW : Hid (∀ W, Below w.heap.size w W → Calls Tryd.prog 6 #[] W fun e w' => e = .returned (.bool true) ∧ Below W.heap.size W w') := Lib.hid fun W hb => works17_any W (hT.below hb)
  by_cases h : 300 < (bs x.s).size ∨ x.t < 2 ∨ 4 < x.t
  · exact self_out x.t x.o x.n x.j x.b x.g x.v (bs x.s) w hW h
  · have hl : x.s.length ≤ 500 := by
      have := bs_size x.s
      omega
    have hp : Plain3 x := by unfold Plain3; omega
    obtain ⟨m1, m2, m3⟩ := self_math x hp
    have D := fun op W (hb : Below w.heap.size w W) => do_any op x x W hp hp ok ok hl hl (hT.below hb)
    refine self_in x.t x.o x.n x.j x.b x.g x.v (bs x.s) w hW (by omega) (by omega) (by omega) _ m1 (Lib.hid fun W hb => D 3 W hb) (Lib.hid fun W hb => ?_) (Lib.hid fun W hb => ?_)
    · have := D 5 W hb
      rw [m2] at this
      exact this
    · have := D 7 W hb
      rw [m3] at this
      exact this
end Go.Proofs.YteooaibbblfmjaaDoor.Char
