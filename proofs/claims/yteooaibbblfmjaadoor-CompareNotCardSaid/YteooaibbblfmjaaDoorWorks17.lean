/- Stage 17's works; what a value is to itself, and what ENe is to EEq (written by gen_law17.py). -/
import Derived.Test.YteooaibbblfmjaaDoorDoAny
namespace Go.Proofs.YteooaibbblfmjaaDoor.Char
open Go.RowKit Go.Lib

theorem way_self (X : Nm) : wayL 3 X X = (match X with | .nan => false | _ => true) ∧ wayL 5 X X = false ∧ wayL 7 X X = false := by
  cases X <;> simp [wayL, wayC, cmpD]
theorem way_not (X Y : Nm) : wayL 4 X Y = !wayL 3 X Y := by
  unfold wayL wayC
  generalize (cmpD X Y).1 = c
  generalize (cmpD X Y).2 = s
  cases s <;> cases h : (c == 0) <;> simp [h, bne]
theorem not_nan (g v : Int) : (match toD g v with | .nan => false | _ => true) = (rightB g v && g != 1) := by
  rcases toD_cases g v with ⟨rfl, _, e, er⟩ | ⟨rfl, rfl, e, er⟩ | ⟨rfl, rfl, e, er⟩ | ⟨rfl, rfl, e, er⟩ | ⟨_, _, _, _, e, er⟩ <;> rw [e, er] <;> rfl
theorem self_math (x : Va) (h : Plain3 x) : doL 3 x x = (x.t != 3 || (rightB x.g x.v && x.g != 1)) ∧ doL 5 x x = false ∧ doL 7 x x = false := by
  obtain ⟨t, o, n, j, b, g, v, s⟩ := x
  have w5 := fun X => (way_self X).2.1
  have w7 := fun X => (way_self X).2.2
  rcases h with h | h | h
  · replace h : t = 2 := h
    subst h
    exact ⟨(way_self (.num (bitZ b))).1, w5 (.num (bitZ b)), w7 (.num (bitZ b))⟩
  · replace h : t = 3 := h
    subst h
    exact ⟨((way_self (toD g v)).1).trans (not_nan g v), w5 (toD g v), w7 (toD g v)⟩
  · replace h : t = 4 := h
    subst h
    refine ⟨?_, w5 (readD s), w7 (readD s)⟩
    show ((s == s) == true) = true
    simp
theorem not_math (x y : Va) : doL 4 x y = !doL 3 x y := by
  unfold doL
  simp only [show ((4 : Int) == 3) = false from rfl, show ((3 : Int) == 3) = true from rfl, show ((4 : Int) == 4) = true from rfl, show ((3 : Int) == 4) = false from rfl, Bool.or_true, Bool.and_true, Bool.not_true, Bool.or_false]
  split
  · exact way_not _ _
  · split
    · exact way_not _ _
    · cases (x.s == y.s) <;> rfl
set_option maxRecDepth 100000 in
set_option maxHeartbeats 8000000 in
theorem works17_any (w : World) (hT : Tabs w) : Calls Tryd.prog 6 #[] w fun e w' => e = .returned (.bool true) ∧ Below w.heap.size w w' := by
  have H1 : Hid (∀ W, Below w.heap.size w W → Calls Tryd.prog 7 #[.pointer none, .int .i64 3, .agg #[.int .i64 4, .slice none 0 0, .bool false, .int .i64 0, .int .i64 0, .string ⟨#[49]⟩], .agg #[.int .i64 3, .slice none 0 0, .bool false, .int .i64 0, .int .i64 1000000, .string ⟨#[]⟩]] W fun e w' => e = .returned (.bool true) ∧ Below W.heap.size W w') := Lib.hid fun W hW =>
    do_any 3 ⟨4, none, 0, 0, false, 0, 0, [49]⟩ ⟨3, none, 0, 0, false, 0, 1000000, []⟩ W (.inr (.inr rfl)) (.inr (.inl rfl)) ⟨⟨by decide, by decide⟩, by decide, by decide⟩ ⟨⟨by decide, by decide⟩, by decide, by decide⟩ (by decide) (by decide) (hT.below hW)
  have H2 : Hid (∀ W, Below w.heap.size w W → Calls Tryd.prog 7 #[.pointer none, .int .i64 5, .agg #[.int .i64 2, .slice none 0 0, .bool true, .int .i64 0, .int .i64 0, .string ⟨#[]⟩], .agg #[.int .i64 2, .slice none 0 0, .bool false, .int .i64 0, .int .i64 0, .string ⟨#[]⟩]] W fun e w' => e = .returned (.bool false) ∧ Below W.heap.size W w') := Lib.hid fun W hW =>
    do_any 5 ⟨2, none, 0, 0, true, 0, 0, []⟩ ⟨2, none, 0, 0, false, 0, 0, []⟩ W (.inl rfl) (.inl rfl) ⟨⟨by decide, by decide⟩, by decide, by decide⟩ ⟨⟨by decide, by decide⟩, by decide, by decide⟩ (by decide) (by decide) (hT.below hW)
  clear hT
  go_enter Tryd.func6, Tryd.ntmps6
  go_wp2_with (first
    | (go_at_call 7
       with_reducible refine (H1.out _ (Below.refl _ _)).mono ?_
       rintro e w1 ⟨rfl, hb⟩
       have HB1 := Lib.hid hb
       clear hb)
    | (go_at_call 7
       with_reducible refine (H2.out _ HB1.out).mono ?_
       rintro e w2 ⟨rfl, hb⟩
       have HB2 := Lib.hid (HB1.out.trans (hb.mono HB1.out.size))
       clear hb))
  go_ret
  exact ⟨rfl, HB2.out⟩
end Go.Proofs.YteooaibbblfmjaaDoor.Char
