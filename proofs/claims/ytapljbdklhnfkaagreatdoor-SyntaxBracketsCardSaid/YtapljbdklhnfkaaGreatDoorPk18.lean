/- LawBrack Witness -/
import Derived.Test.YtapljbdklhnfkaaGreatDoorPk17
import Derived.Test.YtapljbdklhnfkaaGreatDoorCards
import Derived.Test.YtapljbdklhnfkaaGreatDoorTie
import Derived.Test.YtapljbdklhnfkaaGreatDoorPk02
import Derived.PinnedBridge
import Derived.Lay
import Derived.Lib.LaidIn
import Derived.Lib.LaidU8T
import Derived.Lib.LaidTab
import Derived.Deep.DeepHandedRow
import Derived.Deep.DeepWitnessRowRef
import Derived.ProofKit
import Derived.OpenShut
import Derived.JoinedCond
import Derived.SizedLaws
import Derived.Shelf.Vars
import Derived.LaidLaws
/- The walk of the statement on brackets. -/
namespace Go.Proofs.YtapljbdklhnfkaaGreatDoor.Char
open Go.RowKit Go.Lib

theorem parse_errs {s : List UInt8} {y : Nat} (h : parseR s = .inl y) : y ≠ 0 := by
  unfold parseR at h
  cases hl : lexL s with
  | inl e =>
    rw [hl] at h
    cases h
    have := lexL_errs hl
    omega
  | inr ws =>
    rw [hl] at h
    dsimp only at h
    split at h
    · cases h; omega
    · cases hw : wholeL ws with
      | none => rw [hw] at h; cases h; omega
      | some x => rw [hw] at h; cases h
/-- what Parse leaves: an expression, or an error with an empty one -/
def ParO (l : List UInt8) (w w' : World) (x : Ex) (vk vs : Value) (y : Nat) : Prop :=
  Below w.heap.size w w' ∧ ExOn w' (fun _ => True) x vk vs ∧ ((y = 0 ∧ parseR l = .inr x) ∨ (y ≠ 0 ∧ parseR l = .inl y))
theorem par_called (l : List UInt8) (w : World) (hl : l.length ≤ 140737488351232) (hG : Gl w) : Calls Tryz.prog 10 #[.string (bs l)] w fun e w' => ∃ (x : Ex) (o1 o2 : Option Addr) (j1 j2 y : Nat),
    e = .returned (.tuple #[.agg #[.int .i64 x.op, .string (bs x.s), .int .i64 x.tg, .int .i64 x.vl, .bool x.abs, .slice o1 x.ks.length j1, .slice o2 x.ss.length j2], .int .i64 (y : Int)]) ∧ ParO l w w' x (.slice o1 x.ks.length j1) (.slice o2 x.ss.length j2) y := by
  refine (parse_any l w hl hG).mono ?_
  rintro e w' ⟨hb, h⟩
  cases hr : parseR l with
  | inl y =>
    rw [hr] at h
    exact ⟨ex0, none, none, 0, 0, y, h, hb, ExOn.iff.2 ⟨KdOn.nil _ _, SdOn.nil _ _⟩, .inr ⟨parse_errs hr, hr⟩⟩
  | inr x =>
    rw [hr] at h
    obtain ⟨vk, vs, rfl, hx⟩ := h
    obtain ⟨h1, h2⟩ := ExOn.iff.1 hx
    obtain ⟨o1, j1, rfl⟩ := h1.form
    obtain ⟨o2, j2, rfl⟩ := h2.form
    exact ⟨x, o1, o2, j1, j2, 0, rfl, hb, ExOn.move (fun b _ _ => ⟨trivial, rfl⟩) _ _ _ hx, .inl ⟨rfl, hr⟩⟩
/-- a box that holds an expression, from a world on -/
def Hold (W0 : World) (b : Nat) (x : Ex) (vk vs : Value) : Prop := b < W0.heap.size ∧ ∀ W, Below W0.heap.size W0 W → W.heap[b]? = some (boxEx x vk vs) ∧ ExOn W (fun _ => True) x vk vs
theorem Hold.next {W0 W1 : World} {b : Nat} {x : Ex} {vk vs : Value} (h : Hold W0 b x vk vs) (hb : Below W0.heap.size W0 W1) : Hold W1 b x vk vs :=
  ⟨Nat.lt_of_lt_of_le h.1 hb.size, fun W hW => h.2 W (hb.trans (hW.mono hb.size))⟩
theorem Hold.new {w : World} {x : Ex} {vk vs : Value} (h : ExOn w (fun _ => True) x vk vs) : Hold (w.alloc (boxEx x vk vs)) w.heap.size x vk vs :=
  ⟨by simp, fun W hW => ⟨(hW.block _ (by simp)).trans (World.alloc_heap_new w _), ExOn.below (ExOn.below h (below_box _)) hW⟩⟩
theorem Hold.cells {W0 : World} {b : Nat} {x : Ex} {vk vs : Value} (h : Hold W0 b x vk vs) : W0.cell? ⟨b, 0, none⟩ = some (.int .i64 x.op) ∧ W0.cell? ⟨b, 1, none⟩ = some (.string (bs x.s)) ∧ W0.cell? ⟨b, 2, none⟩ = some (.int .i64 x.tg) ∧ W0.cell? ⟨b, 3, none⟩ = some (.int .i64 x.vl) ∧ W0.cell? ⟨b, 4, none⟩ = some (.bool x.abs) ∧ W0.cell? ⟨b, 5, none⟩ = some vk ∧ W0.cell? ⟨b, 6, none⟩ = some vs :=
  (boxEx_blk (h.2 W0 (Below.refl _ _)).1).1

/-- two expressions in a row of their own -/
def rowTwo (x1 x2 : Ex) (a1 b1 a2 b2 : Value) : Obj := .cells (exC x1 a1 b1 ++ exC x2 a2 b2).toArray 28
theorem row2_on {w : World} {x1 x2 : Ex} {a1 b1 a2 b2 : Value} (h1 : ExOn w (fun _ => True) x1 a1 b1) (h2 : ExOn w (fun _ => True) x2 a2 b2) :
    ExOn (w.alloc (rowTwo x1 x2 a1 b1 a2 b2)) (fun _ => True) (.mk 9 [] 0 0 false [x1, x2] []) (.slice (some ⟨w.heap.size, 0, none⟩) 2 2) (.slice none 0 0) ∧ Below w.heap.size w (w.alloc (rowTwo x1 x2 a1 b1 a2 b2)) := by
  have hb : Below w.heap.size w (w.alloc (rowTwo x1 x2 a1 b1 a2 b2)) := below_box _
  have hk : (w.alloc (rowTwo x1 x2 a1 b1 a2 b2)).heap[w.heap.size]? = some (.cells (exC x1 a1 b1 ++ exC x2 a2 b2).toArray 28 (0, 0)) := World.alloc_heap_new w _
  have hc : ∀ i, (w.alloc (rowTwo x1 x2 a1 b1 a2 b2)).cell? ⟨w.heap.size, i, none⟩ = (exC x1 a1 b1 ++ exC x2 a2 b2)[i]? := fun i => by
    have h := Lib.cell_of_heap hk i
    rw [h]
    simp
  refine ⟨ExOn.iff.2 ⟨⟨some ⟨w.heap.size, 0, none⟩, 2, rfl, .inr ⟨w.heap.size, 0, rfl, trivial, ?_⟩⟩, SdOn.nil _ _⟩, hb⟩
  rw [Ex.ks, KsOn, KsOn, KsOn]
  refine ⟨⟨a1, b1, fun i u hu => ?_, ExOn.below h1 hb⟩, ⟨a2, b2, fun i u hu => ?_, ExOn.below h2 hb⟩, trivial⟩
  · have hi := (List.getElem?_eq_some_iff.1 hu).1
    rw [hc, Nat.zero_add, List.getElem?_append_left hi]
    exact hu
  · rw [hc, Nat.zero_add, List.getElem?_append_right (by show 7 ≤ 7 + i; omega), show 7 + i - (exC x1 a1 b1).length = i by show 7 + i - 7 = i; omega]
    exact hu

set_option maxRecDepth 100000 in
set_option maxHeartbeats 8000000 in
theorem brack_law (s t : ByteArray) (w : World) (hG : Gl w) (hs : s.size ≤ 140737488351232) (ht : t.size ≤ 140737488351232) :
    Calls Tryz.prog 5 #[.string s, .string t] w fun e w' => e = .returned (.bool true) ∧ Below w.heap.size w w' := by
  obtain ⟨l, rfl⟩ : ∃ l, s = bs l := ⟨s.data.toList, (bs_of s).symm⟩
  obtain ⟨m, rfl⟩ : ∃ l, t = bs l := ⟨t.data.toList, (bs_of t).symm⟩
  have hsz := bs_size l
  have hsm := bs_size m
  have HG := Lib.hid hG
  have HS := Lib.hid hs
  have HT := Lib.hid ht
  have HWK := Lib.hid fun (W : World) (hb : Below w.heap.size w W) => works13_any W (hG.below hb)
  clear hG hs ht
  go_enter Tryz.func5, Tryz.ntmps5
  go_wp2_with fail
  refine (par_called l w (by have := HS.out; omega) HG.out).mono ?_
  rintro e w1 ⟨x1, o1, o2, j1, j2, y1, rfl, P1⟩
  have HP1 := Lib.hid P1
  have HO1 := Hold.new P1.2.1
  have HB1 := Lib.hid (P1.1.trans ((below_box (w := w1) (boxEx x1 (.slice o1 x1.ks.length j1) (.slice o2 x1.ss.length j2))).mono P1.1.size))
  clear P1
  go_wp2_with fail
  obtain ⟨W1, hW1⟩ : ∃ W1, W1 = w1.alloc (boxEx x1 (.slice o1 x1.ks.length j1) (.slice o2 x1.ss.length j2)) := ⟨_, rfl⟩
  rw [← hW1] at HO1 HB1
  unfold boxEx at hW1
  rw [← hW1]
  clear hW1
  obtain ⟨b5, hb5⟩ : ∃ b5, b5 = w1.heap.size := ⟨_, rfl⟩
  rw [← hb5] at HO1 ⊢
  clear hb5
  refine (par_called (m) W1 (by have := HS.out; have := HT.out; first | omega | (simp only [List.length_cons, List.length_append, List.length_nil]; omega)) (HG.out.below HB1.out)).mono ?_
  rintro e w2 ⟨x2, o3, o4, j3, j4, y2, rfl, P1⟩
  have HP2 := Lib.hid P1
  have hbx := P1.1.trans ((below_box (w := w2) (boxEx x2 (.slice o3 x2.ks.length j3) (.slice o4 x2.ss.length j4))).mono P1.1.size)
  have HB2 := Lib.hid (HB1.out.trans (hbx.mono HB1.out.size))
  replace HO1 := HO1.next hbx
  have HO2 := Hold.new P1.2.1
  clear P1 hbx
  by_cases c1 : y1 = 0
  · have k1 : ((y1 : Int) != 0) = false := by simp [c1]
    by_cases c2 : y2 = 0
    · have k2 : ((y2 : Int) != 0) = false := by simp [c2]
      by_cases c3 : 190 < l.length
      · have k3 : decide ((190 : Int) < (l.length : Int)) = true := decide_eq_true (by omega)
        clear c1 c2 c3
        go_wp2_with fail
        obtain ⟨W2, hW2⟩ : ∃ W2, W2 = w2.alloc (boxEx x2 (.slice o3 x2.ks.length j3) (.slice o4 x2.ss.length j4)) := ⟨_, rfl⟩
        rw [← hW2] at HB2 HO1 HO2
        unfold boxEx at hW2
        rw [← hW2]
        clear hW2
        refine (HWK.out W2 HB2.out).mono ?_
        rintro e wz ⟨rfl, hz⟩
        go_wp2_with fail
        go_ret
        exact ⟨rfl, HB2.out.trans (hz.mono HB2.out.size)⟩
      · have k3 : decide ((190 : Int) < (l.length : Int)) = false := decide_eq_false (by omega)
        by_cases c4 : 190 < m.length
        · have k4 : decide ((190 : Int) < (m.length : Int)) = true := decide_eq_true (by omega)
          clear c1 c2 c3 c4
          go_wp2_with fail
          obtain ⟨W2, hW2⟩ : ∃ W2, W2 = w2.alloc (boxEx x2 (.slice o3 x2.ks.length j3) (.slice o4 x2.ss.length j4)) := ⟨_, rfl⟩
          rw [← hW2] at HB2 HO1 HO2
          unfold boxEx at hW2
          rw [← hW2]
          clear hW2
          refine (HWK.out W2 HB2.out).mono ?_
          rintro e wz ⟨rfl, hz⟩
          go_wp2_with fail
          go_ret
          exact ⟨rfl, HB2.out.trans (hz.mono HB2.out.size)⟩
        · have k4 : decide ((190 : Int) < (m.length : Int)) = false := decide_eq_false (by omega)
          have q1 : parseR l = .inr x1 := by
            rcases HP1.out.2.2 with h | h
            · exact h.2
            · exact absurd c1 h.1
          have q2 : parseR m = .inr x2 := by
            rcases HP2.out.2.2 with h | h
            · exact h.2
            · exact absurd c2 h.1
          have Q3 := Lib.hid (parse_brack q1 (by omega))
          have Q4 := Lib.hid (parse_sum q1 (by omega) q2 (by omega))
          have QC := Lib.hid (And.intro (parse_cnt q1) (parse_cnt q2))
          have HL3 := Lib.hid c3
          have HL4 := Lib.hid c4
          have a1 : ∀ wx, (Op.stringOp .add ⟨#[40]⟩ (bs l)).run Tryz.prog wx = .ok (.string (bs (40 :: l))) wx := fun wx => add_bs [40] l (by decide) (by omega) wx
          have a2 : ∀ wx, (Op.stringOp .add (bs (40 :: l)) ⟨#[41]⟩).run Tryz.prog wx = .ok (.string (bs (40 :: (l ++ [41])))) wx := fun wx => add_bs (40 :: l) [41] (by rw [List.length_cons]; omega) (by decide) wx
          have a3 : ∀ wx, (Op.stringOp .add (bs (40 :: l)) ⟨#[41, 32, 43, 32, 40]⟩).run Tryz.prog wx = .ok (.string (bs (40 :: (l ++ [41, 32, 43, 32, 40])))) wx := fun wx => add_bs (40 :: l) [41, 32, 43, 32, 40] (by rw [List.length_cons]; omega) (by decide) wx
          have a4 : ∀ wx, (Op.stringOp .add (bs (40 :: (l ++ [41, 32, 43, 32, 40]))) (bs m)).run Tryz.prog wx = .ok (.string (bs (40 :: (l ++ 41 :: 32 :: 43 :: 32 :: 40 :: m)))) wx := fun wx => by
            have h := add_bs (40 :: (l ++ [41, 32, 43, 32, 40])) m (by simp; omega) (by omega) wx
            rw [h]
            simp
          have a5 : ∀ wx, (Op.stringOp .add (bs (40 :: (l ++ 41 :: 32 :: 43 :: 32 :: 40 :: m))) ⟨#[41]⟩).run Tryz.prog wx = .ok (.string (bs (40 :: (l ++ 41 :: 32 :: 43 :: 32 :: 40 :: (m ++ [41]))))) wx := fun wx => by
            have h := add_bs (40 :: (l ++ 41 :: 32 :: 43 :: 32 :: 40 :: m)) [41] (by simp; omega) (by decide) wx
            rw [show (⟨#[41]⟩ : ByteArray) = bs [41] from rfl, h]
            simp
          clear c1 c2 c3 c4 q1 q2
          go_wp2_with fail
          obtain ⟨W2, hW2⟩ : ∃ W2, W2 = w2.alloc (boxEx x2 (.slice o3 x2.ks.length j3) (.slice o4 x2.ss.length j4)) := ⟨_, rfl⟩
          rw [← hW2] at HB2 HO1 HO2
          unfold boxEx at hW2
          rw [← hW2]
          clear hW2
          obtain ⟨b7, hb7⟩ : ∃ b7, b7 = w2.heap.size := ⟨_, rfl⟩
          rw [← hb7] at HO2 ⊢
          clear hb7
          refine (par_called (40 :: (l ++ [41])) W2 (by have := HL3.out; have := HL4.out; first | omega | (simp only [List.length_cons, List.length_append, List.length_nil]; omega)) (HG.out.below HB2.out)).mono ?_
          rintro e w3 ⟨x3, o5, o6, j5, j6, y3, rfl, P1⟩
          have HP3 := Lib.hid P1
          have hbx := P1.1.trans ((below_box (w := w3) (boxEx x3 (.slice o5 x3.ks.length j5) (.slice o6 x3.ss.length j6))).mono P1.1.size)
          have HB3 := Lib.hid (HB2.out.trans (hbx.mono HB2.out.size))
          replace HO1 := HO1.next hbx
          replace HO2 := HO2.next hbx
          have HO3 := Hold.new P1.2.1
          clear P1 hbx
          go_wp2_with fail
          obtain ⟨W3, hW3⟩ : ∃ W3, W3 = w3.alloc (boxEx x3 (.slice o5 x3.ks.length j5) (.slice o6 x3.ss.length j6)) := ⟨_, rfl⟩
          rw [← hW3] at HB3 HO1 HO2 HO3
          unfold boxEx at hW3
          rw [← hW3]
          clear hW3
          obtain ⟨b9, hb9⟩ : ∃ b9, b9 = w3.heap.size := ⟨_, rfl⟩
          rw [← hb9] at HO3 ⊢
          clear hb9
          refine (par_called (40 :: (l ++ 41 :: 32 :: 43 :: 32 :: 40 :: (m ++ [41]))) W3 (by have := HL3.out; have := HL4.out; first | omega | (simp only [List.length_cons, List.length_append, List.length_nil]; omega)) (HG.out.below HB3.out)).mono ?_
          rintro e w4 ⟨x4, o7, o8, j7, j8, y4, rfl, P1⟩
          have HP4 := Lib.hid P1
          have hbx := P1.1.trans ((below_box (w := w4) (boxEx x4 (.slice o7 x4.ks.length j7) (.slice o8 x4.ss.length j8))).mono P1.1.size)
          have HB4 := Lib.hid (HB3.out.trans (hbx.mono HB3.out.size))
          have D1 := HO1.next P1.1
          have D2 := HO2.next P1.1
          have D3 := HO3.next P1.1
          replace HO1 := HO1.next hbx
          replace HO2 := HO2.next hbx
          replace HO3 := HO3.next hbx
          have HO4 := Hold.new P1.2.1
          clear P1 hbx
          have z3 : y3 = 3 ∨ y3 = 34 ∨ (y3 = 0 ∧ x3 = x1) := by
            rcases HP3.out.2.2 with ⟨h, h2⟩ | ⟨_, h2⟩
            · rcases Q3.out with q | q | q
              · rw [h2] at q; cases q
              · rw [h2] at q; cases q
              · rw [h2] at q; cases q; exact .inr (.inr ⟨h, rfl⟩)
            · rcases Q3.out with q | q | q
              · rw [h2] at q; cases q; exact .inl rfl
              · rw [h2] at q; cases q; exact .inr (.inl rfl)
              · rw [h2] at q; cases q
          have z4 : y4 = 3 ∨ y4 = 34 ∨ (y4 = 0 ∧ x4 = .mk 9 [] 0 0 false [x1, x2] []) := by
            rcases HP4.out.2.2 with ⟨h, h2⟩ | ⟨_, h2⟩
            · rcases Q4.out with q | q | q
              · rw [h2] at q; cases q
              · rw [h2] at q; cases q
              · rw [h2] at q; cases q; exact .inr (.inr ⟨h, rfl⟩)
            · rcases Q4.out with q | q | q
              · rw [h2] at q; cases q; exact .inl rfl
              · rw [h2] at q; cases q; exact .inr (.inl rfl)
              · rw [h2] at q; cases q
          clear HP1 HP2 HP3 HP4 Q3 Q4 a1 a2 a3 a4 a5
          rcases z3 with z3 | z3 | ⟨z3, e3⟩
          · have k5 : ((y3 : Int) == 34) = false := by rw [beq_eq_false_iff_ne]; omega
            have k6 : ((y3 : Int) == 3) = true := by rw [beq_iff_eq]; omega
            clear z3 z4
            go_wp2_with fail
            obtain ⟨W4, hW4⟩ : ∃ W4, W4 = w4.alloc (boxEx x4 (.slice o7 x4.ks.length j7) (.slice o8 x4.ss.length j8)) := ⟨_, rfl⟩
            rw [← hW4] at HB4 HO1 HO2 HO3 HO4
            unfold boxEx at hW4
            rw [← hW4]
            clear hW4
            refine (HWK.out W4 HB4.out).mono ?_
            rintro e wz ⟨rfl, hz⟩
            go_wp2_with fail
            go_ret
            exact ⟨rfl, HB4.out.trans (hz.mono HB4.out.size)⟩
          · have k5 : ((y3 : Int) == 34) = true := by rw [beq_iff_eq]; omega
            clear z3 z4
            go_wp2_with fail
            obtain ⟨W4, hW4⟩ : ∃ W4, W4 = w4.alloc (boxEx x4 (.slice o7 x4.ks.length j7) (.slice o8 x4.ss.length j8)) := ⟨_, rfl⟩
            rw [← hW4] at HB4 HO1 HO2 HO3 HO4
            unfold boxEx at hW4
            rw [← hW4]
            clear hW4
            refine (HWK.out W4 HB4.out).mono ?_
            rintro e wz ⟨rfl, hz⟩
            go_wp2_with fail
            go_ret
            exact ⟨rfl, HB4.out.trans (hz.mono HB4.out.size)⟩
          · have k5 : ((y3 : Int) == 34) = false := by rw [beq_eq_false_iff_ne]; omega
            have k6 : ((y3 : Int) == 3) = false := by rw [beq_eq_false_iff_ne]; omega
            have k7 : ((y3 : Int) == 0) = true := by rw [beq_iff_eq]; omega
            rcases z4 with z4 | z4 | ⟨z4, e4⟩
            · have k8 : ((y4 : Int) == 34) = false := by rw [beq_eq_false_iff_ne]; omega
              have k9 : ((y4 : Int) == 3) = true := by rw [beq_iff_eq]; omega
              clear z3 z4 e3
              go_wp2_with fail
              obtain ⟨W4, hW4⟩ : ∃ W4, W4 = w4.alloc (boxEx x4 (.slice o7 x4.ks.length j7) (.slice o8 x4.ss.length j8)) := ⟨_, rfl⟩
              rw [← hW4] at HB4 HO1 HO2 HO3 HO4
              unfold boxEx at hW4
              rw [← hW4]
              clear hW4
              refine (HWK.out W4 HB4.out).mono ?_
              rintro e wz ⟨rfl, hz⟩
              go_wp2_with fail
              go_ret
              exact ⟨rfl, HB4.out.trans (hz.mono HB4.out.size)⟩
            · have k8 : ((y4 : Int) == 34) = true := by rw [beq_iff_eq]; omega
              clear z3 z4 e3
              go_wp2_with fail
              obtain ⟨W4, hW4⟩ : ∃ W4, W4 = w4.alloc (boxEx x4 (.slice o7 x4.ks.length j7) (.slice o8 x4.ss.length j8)) := ⟨_, rfl⟩
              rw [← hW4] at HB4 HO1 HO2 HO3 HO4
              unfold boxEx at hW4
              rw [← hW4]
              clear hW4
              refine (HWK.out W4 HB4.out).mono ?_
              rintro e wz ⟨rfl, hz⟩
              go_wp2_with fail
              go_ret
              exact ⟨rfl, HB4.out.trans (hz.mono HB4.out.size)⟩
            · have k8 : ((y4 : Int) == 34) = false := by rw [beq_eq_false_iff_ne]; omega
              have k9 : ((y4 : Int) == 3) = false := by rw [beq_eq_false_iff_ne]; omega
              have k10 : ((y4 : Int) == 0) = true := by rw [beq_iff_eq]; omega
              have HE3 := Lib.hid e3
              have HE4 := Lib.hid e4
              clear z3 z4 e3 e4
              obtain ⟨a0, a1, a2, a3, a4, a5, a6⟩ := D1.cells
              obtain ⟨c0, c1, c2, c3, c4, c5, c6⟩ := D3.cells
              have d1 := D1.1
              have d3 := D3.1
              clear D1 D2 D3
              go_wp2_with fail
              obtain ⟨W4, hW4⟩ : ∃ W4, W4 = w4.alloc (boxEx x4 (.slice o7 x4.ks.length j7) (.slice o8 x4.ss.length j8)) := ⟨_, rfl⟩
              rw [← hW4] at HB4 HO1 HO2 HO3 HO4
              unfold boxEx at hW4
              rw [← hW4]
              clear hW4
              obtain ⟨b11, hb11⟩ : ∃ b11, b11 = w4.heap.size := ⟨_, rfl⟩
              rw [← hb11] at HO4 ⊢
              clear hb11
              clear a0 a1 a2 a3 a4 a5 a6 c0 c1 c2 c3 c4 c5 c6 d1 d3
              have CS := refSameE_any 1000 (by omega) x1 x3 _ _ _ _ W4 _ _ (by have := QC.out.1; omega) (HO1.2 W4 (Below.refl _ _)).2 (HO3.2 W4 (Below.refl _ _)).2
              unfold exV at CS
              rw [show eqE x1 x3 = true by rw [HE3.out]; exact eqE_self _] at CS
              refine CS.mono ?_
              clear CS
              rintro e w5 ⟨rfl, hz5⟩
              replace HO1 := HO1.next hz5
              replace HO2 := HO2.next hz5
              replace HO4 := HO4.next hz5
              have HB5 := Lib.hid (HB4.out.trans (hz5.mono HB4.out.size))
              clear hz5 HO3
              obtain ⟨a0, a1, a2, a3, a4, a5, a6⟩ := HO1.cells
              obtain ⟨c0, c1, c2, c3, c4, c5, c6⟩ := HO2.cells
              obtain ⟨f0, f1, f2, f3, f4, f5, f6⟩ := HO4.cells
              obtain ⟨hr1, hr2⟩ := row2_on (HO1.2 w5 (Below.refl _ _)).2 (HO2.2 w5 (Below.refl _ _)).2
              have CS := refSameE_any 1000 (by omega) x4 (.mk 9 [] 0 0 false [x1, x2] []) _ _ _ _ _ _ _ (by have := QC.out; rw [HE4.out, cntE, cntEs, cntEs_one, cntSs]; omega) (ExOn.below (HO4.2 w5 (Below.refl _ _)).2 hr2) hr1
              rw [show eqE x4 (.mk 9 [] 0 0 false [x1, x2] []) = true by rw [HE4.out]; exact eqE_self _] at CS
              unfold exV rowTwo exC at CS
              dsimp only [Ex.op, Ex.s, Ex.tg, Ex.vl, Ex.abs, List.cons_append, List.nil_append] at CS
              rw [show bs [] = ⟨#[]⟩ from rfl] at CS
              have HCS := Lib.hid CS
              have HR2 := Lib.hid hr2
              clear hr1 hr2 CS HO1 HO2 HO4
              go_wp2_with fail
              refine HCS.out.mono ?_
              rintro e w6 ⟨rfl, hz6⟩
              have HB6 := Lib.hid (HB5.out.trans ((HR2.out.trans (hz6.mono HR2.out.size)).mono HB5.out.size))
              clear hz6 HCS HR2
              go_wp2_with fail
              refine (HWK.out w6 HB6.out).mono ?_
              rintro e w7 ⟨rfl, hz⟩
              go_wp2_with fail
              go_ret
              exact ⟨rfl, HB6.out.trans (hz.mono HB6.out.size)⟩
    · have k2 : ((y2 : Int) != 0) = true := by simp [c2]
      clear c1 c2
      go_wp2_with fail
      obtain ⟨W2, hW2⟩ : ∃ W2, W2 = w2.alloc (boxEx x2 (.slice o3 x2.ks.length j3) (.slice o4 x2.ss.length j4)) := ⟨_, rfl⟩
      rw [← hW2] at HB2 HO1 HO2
      unfold boxEx at hW2
      rw [← hW2]
      clear hW2
      refine (HWK.out W2 HB2.out).mono ?_
      rintro e wz ⟨rfl, hz⟩
      go_wp2_with fail
      go_ret
      exact ⟨rfl, HB2.out.trans (hz.mono HB2.out.size)⟩
  · have k1 : ((y1 : Int) != 0) = true := by simp [c1]
    clear c1
    go_wp2_with fail
    obtain ⟨W2, hW2⟩ : ∃ W2, W2 = w2.alloc (boxEx x2 (.slice o3 x2.ks.length j3) (.slice o4 x2.ss.length j4)) := ⟨_, rfl⟩
    rw [← hW2] at HB2 HO1 HO2
    unfold boxEx at hW2
    rw [← hW2]
    clear hW2
    refine (HWK.out W2 HB2.out).mono ?_
    rintro e wz ⟨rfl, hz⟩
    go_wp2_with fail
    go_ret
    exact ⟨rfl, HB2.out.trans (hz.mono HB2.out.size)⟩
end Go.Proofs.YtapljbdklhnfkaaGreatDoor.Char

/- A world in which the listed variables read as the rows list them; and what the rows' list, and a well-shaped world, give the walks. -/
namespace Go.Proofs.YtapljbdklhnfkaaGreatDoor.Char
open Go.ChangeShapes Go.WideShapes Go.ChangeAt Go.RowKit

theorem own : ownKnob Tryz.prog.godebug = none := by kernel_rfl

/-- what the rows list -/
def laid : List (String × DataW Unit) := [("unicode/utf8.acceptRanges", Rows.laid_unicode_utf8_acceptRanges), ("unicode/utf8.first", Rows.laid_unicode_utf8_first)]
def laidL : List (String × DataW Unit) := [("unicode/utf8.acceptRanges", Lib.acceptData), ("unicode/utf8.first", Lib.firstData)]
theorem accept_eq : (Rows.laid_unicode_utf8_acceptRanges : DataW Unit) = Lib.acceptData := by kernel_rfl
theorem first_eq : Rows.laid_unicode_utf8_first = Lib.firstData := Pinned.utf8First_eq
theorem laid_eq : laid = laidL := by
  unfold laid laidL
  rw [accept_eq, first_eq]
/-- the settled world, the variables holding what their initialisers lay -/
noncomputable def laidWorld (os : Os) : World := World.laidAll Tryz.prog os laid
theorem laid_met (os : Os) (args : Array Value) : laidMet Tryz.prog laid ((laidWorld os).forCall (fun _ _ => 0) ⟨#[], args, []⟩).memory := laidMet_laidAll _ (by kernel_rfl) (by kernel_rfl)
theorem maxL_of {W : World} (h : W.ShapedOpen Tryz.prog) : MaxL W :=
  cell_of_shapedOpen_int (t := 3) (zero := #[.int .i64 0]) h (of_decide_eq_true (by kernel_rfl)) (by kernel_rfl) rfl (by kernel_rfl) (by kernel_rfl) Tryz.underlying3
theorem tabs_of {W : World} (hL : laidMetH Tryz.prog laid W) : Tabs W := by
  rw [laid_eq] at hL
  exact utf8Tabs_of_readsT (U8Types.of196 laysValid) ⟨by kernel_rfl, by kernel_rfl, by kernel_rfl, by kernel_rfl, by kernel_rfl, by kernel_rfl, by kernel_rfl⟩ (Lib.laidMet.reads hL (by unfold laidL; simp)) (Lib.laidMet.reads hL (by unfold laidL; simp))
theorem reachBytes_val : reachBytes ≤ 140737488351232 := by decide
theorem gl_of {W : World} (hL : laidMetH Tryz.prog laid W) (hS : W.ShapedOpen Tryz.prog) : Gl W := ⟨tabs_of hL, maxL_of hS⟩
end Go.Proofs.YtapljbdklhnfkaaGreatDoor.Char
