/- 'works': a name is one, and what is none is none; and the law CharClasses. -/
import Derived.Test.YtaiglcjeikcboaaDoorName
namespace Go.Proofs.YtaiglcjeikcboaaDoor.Char
open Go.RowKit

theorem nm_a1 : nmD ⟨#[97, 45, 49]⟩ = true := by decide +kernel
theorem nm_1a : nmD ⟨#[49, 97]⟩ = false := by decide +kernel
theorem is_97 : isC 97 = true := by decide +kernel
theorem is_0 : isC 0 = false := by decide +kernel

set_option maxHeartbeats 400000 in
theorem works_any (w : World) (hT : Tabs w) :
    Calls Tryd.prog 16 #[] w fun e w' => e = .returned (.bool true) ∧ Below w.heap.size w w' := by
  have HT := Lib.hid hT
  clear hT
  go_enter Tryd.func16, Tryd.ntmps16
  go_wp2_with fail
  refine (name_any _ w (by decide) HT.out).mono ?_
  rintro e w1 ⟨rfl, hb1⟩
  rw [nm_a1]
  go_wp2_with fail
  refine (name_any _ w1 (by decide) (HT.out.below hb1)).mono ?_
  rintro e w2 ⟨rfl, hb2⟩
  rw [nm_1a]
  have hb12 := hb1.trans (hb2.mono hb1.size)
  go_wp2_with fail
  refine (is_any 97 w2).mono ?_
  rintro e w3 ⟨rfl, hb3⟩
  rw [is_97]
  have hb13 := hb12.trans (hb3.mono hb12.size)
  go_wp2_with fail
  refine (is_any 0 w3).mono ?_
  rintro e w4 ⟨rfl, hb4⟩
  rw [is_0]
  have hb14 := hb13.trans (hb4.mono hb13.size)
  go_wp2_with fail
  go_ret
  exact ⟨rfl, hb14⟩

set_option maxHeartbeats 400000 in
theorem classes_any (r : Int) (h1 : -2147483648 ≤ r) (h2 : r ≤ 2147483647) (w : World) (hT : Tabs w) :
    Calls Tryd.prog 3 #[.int .i32 r] w fun e w' => e = .returned (.bool true) ∧ Below w.heap.size w w' := by
  have HT := Lib.hid hT
  clear hT
  go_enter Tryd.func3, Tryd.ntmps3
  go_wp2_with fail
  refine (is_any r w).mono ?_
  rintro e w1 ⟨rfl, hb1⟩
  go_wp2_with fail
  refine (refIs_any r w1).mono ?_
  rintro e w2 ⟨rfl, hb2⟩
  have hb02 := hb1.trans (hb2.mono hb1.size)
  generalize isC r = v
  go_wp2_with fail
  refine (space_any r w2).mono ?_
  rintro e w3 ⟨rfl, hb3⟩
  have hc3 := hb02.trans (hb3.mono hb02.size)
  go_wp2_with fail
  refine (refSpace_any r w3).mono ?_
  rintro e w4 ⟨rfl, rfl⟩
  generalize spC r = v3
  go_wp2_with fail
  refine (start_any r w3).mono ?_
  rintro e w4 ⟨rfl, hb4⟩
  have hc4 := hc3.trans (hb4.mono hc3.size)
  go_wp2_with fail
  refine (refStart_any r w4).mono ?_
  rintro e w5 ⟨rfl, hb5⟩
  have hc5 := hc4.trans (hb5.mono hc4.size)
  generalize stC r = v4
  go_wp2_with fail
  refine (part_any r w5).mono ?_
  rintro e w6 ⟨rfl, hb6⟩
  have hc6 := hc5.trans (hb6.mono hc5.size)
  go_wp2_with fail
  refine (refPart_any r w6).mono ?_
  rintro e w7 ⟨rfl, hb7⟩
  have hc7 := hc6.trans (hb7.mono hc6.size)
  generalize paC r = v6
  go_wp2_with fail
  refine (works_any w7 (HT.out.below hc7)).mono ?_
  rintro e wz ⟨rfl, hz⟩
  go_wp2_with fail
  go_ret
  exact ⟨rfl, hc7.trans (hz.mono hc7.size)⟩
end Go.Proofs.YtaiglcjeikcboaaDoor.Char
