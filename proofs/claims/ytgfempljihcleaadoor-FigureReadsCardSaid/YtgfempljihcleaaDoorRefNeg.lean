/- The walk of the document's own Neg. -/
import Derived.Test.YtgfempljihcleaaDoorRefSmall
namespace Go.Proofs.YtgfempljihcleaaDoor.Char
open Go.RowKit

set_option maxRecDepth 100000 in
set_option maxHeartbeats 4000000 in
theorem refNeg_any (t v : Int) (w : World) (h : -9223372036854775808 ≤ v ∧ v ≤ 9223372036854775807) :
    Calls Tryd.prog 30 #[aggV t v] w fun e w' => e = .returned (decV (negD (toD t v))) ∧ Below w.heap.size w w' := by
  have CN := fun W => none_any t v t v W
  have CS := fun W => sign_any t v W
  have CG := fun s W => Lib.hid (great_any s W)
  rcases toD_cases t v with ⟨rfl, h2, e, er⟩ | ⟨rfl, rfl, e, er⟩ | ⟨rfl, rfl, e, er⟩ | ⟨rfl, rfl, e, er⟩ | ⟨_, _, _, _, e, er⟩ <;> rw [e] at CN CS ⊢
  · have C1 := fun W => Lib.hid (CN W)
    have wn : IntKind.i64.wrap (-v) = -v := IntWalk.i64_in _ (by omega)
    unfold aggV at C1 ⊢
    clear CN CS CG e er
    go_enter Tryd.func30, Tryd.ntmps30
    go_wp2_with fail
    refine (C1 _).out.mono ?_
    rintro e w1 ⟨rfl, h1⟩
    obtain ⟨a0, a1, b0, b1, f0, f1, hs1, hbb⟩ := kept_two w _ _ _ _ 23 23 w1 h1
    have hn : (nanB (.num v) || nanB (.num v)) = false := rfl
    go_wp2_with fail
    exact end_dec rfl w1 (w.heap.size + 1) _ _ b0 b1 rfl rfl ⟨rfl, (hbb.setCell (by show w.heap.size ≤ w.heap.size + 1; omega) _).setCell (by show w.heap.size ≤ w.heap.size + 1; omega) _⟩
  · have C1 := fun W => Lib.hid (CN W)
    have C2 := fun W => Lib.hid (CS W rfl)
    unfold aggV at C1 C2 ⊢
    clear CN CS e er h
    go_enter Tryd.func30, Tryd.ntmps30
    go_wp2_with fail
    refine (C1 _).out.mono ?_
    rintro e w1 ⟨rfl, h1⟩
    obtain ⟨a0, a1, b0, b1, f0, f1, hs1, hbb⟩ := kept_two w _ _ _ _ 23 23 w1 h1
    have hn : (nanB .over || nanB .over) = false := rfl
    go_wp2_with fail
    refine (C2 _).out.mono ?_
    rintro e w2 ⟨rfl, h2⟩
    have hs : sgn .over = 1 := rfl
    go_wp2_with fail
    refine (CG _ _).out.mono ?_
    rintro e w3 ⟨rfl, h3⟩
    obtain ⟨_, _, k0, k1, f0, f1, hs1, hbb⟩ := kept_two w _ _ _ _ 23 23 w3 (h1.trans ((h2.trans (h3.mono h2.size)).mono h1.size))
    have hp : pastD (-1) = .under := rfl
    rw [hp]
    unfold decV
    go_wp2_with fail
    exact end_dec rfl w3 (w.heap.size + 1) _ _ k0 k1 rfl rfl ⟨rfl, (hbb.setCell (by show w.heap.size ≤ w.heap.size + 1; omega) _).setCell (by show w.heap.size ≤ w.heap.size + 1; omega) _⟩
  · have C1 := fun W => Lib.hid (CN W)
    have C2 := fun W => Lib.hid (CS W rfl)
    unfold aggV at C1 C2 ⊢
    clear CN CS e er h
    go_enter Tryd.func30, Tryd.ntmps30
    go_wp2_with fail
    refine (C1 _).out.mono ?_
    rintro e w1 ⟨rfl, h1⟩
    obtain ⟨a0, a1, b0, b1, f0, f1, hs1, hbb⟩ := kept_two w _ _ _ _ 23 23 w1 h1
    have hn : (nanB .under || nanB .under) = false := rfl
    go_wp2_with fail
    refine (C2 _).out.mono ?_
    rintro e w2 ⟨rfl, h2⟩
    have hs : sgn .under = -1 := rfl
    go_wp2_with fail
    refine (CG _ _).out.mono ?_
    rintro e w3 ⟨rfl, h3⟩
    obtain ⟨_, _, k0, k1, f0, f1, hs1, hbb⟩ := kept_two w _ _ _ _ 23 23 w3 (h1.trans ((h2.trans (h3.mono h2.size)).mono h1.size))
    have hp : pastD 1 = .over := rfl
    rw [hp]
    unfold decV
    go_wp2_with fail
    exact end_dec rfl w3 (w.heap.size + 1) _ _ k0 k1 rfl rfl ⟨rfl, (hbb.setCell (by show w.heap.size ≤ w.heap.size + 1; omega) _).setCell (by show w.heap.size ≤ w.heap.size + 1; omega) _⟩
  all_goals
    have C1 := fun W => Lib.hid (CN W)
    unfold aggV at C1 ⊢
    clear CN CS CG e er h
    go_enter Tryd.func30, Tryd.ntmps30
    go_wp2_with fail
    refine (C1 _).out.mono ?_
    rintro e w1 ⟨rfl, h1⟩
    obtain ⟨a0, a1, b0, b1, f0, f1, hs1, hbb⟩ := kept_two w _ _ _ _ 23 23 w1 h1
    have hn : (nanB .nan || nanB .nan) = true := rfl
    go_wp2_with fail
    exact end_dec rfl w1 (w.heap.size + 1) _ _ b0 b1 rfl rfl ⟨rfl, (hbb.setCell (by show w.heap.size ≤ w.heap.size + 1; omega) _).setCell (by show w.heap.size ≤ w.heap.size + 1; omega) _⟩

end Go.Proofs.YtgfempljihcleaaDoor.Char
