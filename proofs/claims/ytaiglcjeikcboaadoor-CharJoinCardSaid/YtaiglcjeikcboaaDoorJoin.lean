/- The walk of CharJoin. -/
import Derived.Test.YtaiglcjeikcboaaDoorWorks
import Derived.Test.YtaiglcjeikcboaaDoorPlain2
namespace Go.Proofs.YtaiglcjeikcboaaDoor.Char
open Go.RowKit

theorem cat_list (a b : ByteArray) : (a ++ b).data.toList = a.data.toList ++ b.data.toList := by
  rw [ByteArray.data_append, Array.toList_append]
theorem txD_join (a b : List UInt8) (h : txD a = true) : txD (a ++ b) = txD b := by
  unfold txD at h ⊢
  rw [Bool.and_eq_true] at h
  rw [validD_more _ a b (Nat.le_refl _) h.1, allR_more isC _ a b (Nat.le_refl _) h.1, h.2, Bool.true_and]

/-- what a function answers from a world on, whatever has been made in between -/
def Ans (B : World) (f : FuncId) (args : Array Value) (b : Bool) : Prop := ∀ W, Below B.heap.size B W → Calls Tryd.prog f args W fun e W' => e = .returned (.bool b) ∧ Below B.heap.size B W'
theorem Ans.mk {B : World} {f : FuncId} {args : Array Value} {b : Bool} (h : ∀ W, Below B.heap.size B W → Calls Tryd.prog f args W fun e W' => e = .returned (.bool b) ∧ Below W.heap.size W W') : Ans B f args b :=
  fun W hW => (h W hW).mono fun _ _ ⟨he, hb⟩ => ⟨he, hW.trans (hb.mono hW.size)⟩
theorem Ans.at {B W : World} {f : FuncId} {args : Array Value} {b : Bool} (h : Ans B f args b) (hW : Below B.heap.size B W) : Calls Tryd.prog f args W fun e W' => e = .returned (.bool b) ∧ Below B.heap.size B W' := h W hW
theorem Tabs.on {B W : World} (h : Tabs B) (hW : Below B.heap.size B W) : Tabs W := h.below hW

set_option maxHeartbeats 1000000 in
theorem join_any (a b : ByteArray) (w : World) (ha : a.size ≤ 140737488351232) (hb : b.size ≤ 140737488351232) (hT : Tabs w) :
    Calls Tryd.prog 7 #[.string a, .string b] w fun e w' => e = .returned (.bool true) ∧ Below w.heap.size w w' := by
  have hab : (a ++ b).size ≤ 9223372036854775807 := by rw [ByteArray.size_append]; omega
  have hB : Ans w 19 #[.string (a ++ b)] (allR spC a.data.toList && allR spC b.data.toList) := Ans.mk fun W _ => by
    rw [← blank_join, ← cat_list]
    exact blank_any _ W
  have hBa : Ans w 19 #[.string a] (allR spC a.data.toList) := Ans.mk fun W _ => blank_any _ W
  have hBb : Ans w 19 #[.string b] (allR spC b.data.toList) := Ans.mk fun W _ => blank_any _ W
  have hTa : Ans w 17 #[.string a] (txD a.data.toList) := Ans.mk fun W h => text_any _ W (by omega) (hT.on h)
  have hTb : Ans w 17 #[.string b] (txD b.data.toList) := Ans.mk fun W h => text_any _ W (by omega) (hT.on h)
  have hTc : txD a.data.toList = true → Ans w 17 #[.string (a ++ b)] (txD b.data.toList) := fun htx => Ans.mk fun W h => by
    rw [← txD_join _ _ htx, ← cat_list]
    exact text_any _ W hab (hT.on h)
  have hWk : Ans w 16 #[] true := Ans.mk fun W h => works_any W (hT.on h)
  generalize allR spC a.data.toList = x at hB hBa
  generalize allR spC b.data.toList = y at hB hBb
  generalize txD a.data.toList = t at hTa hTc
  generalize txD b.data.toList = u at hTb hTc
  have h0 := Below.refl w.heap.size w
  clear hab hT
  cases t
  · clear hTc hTb
    cases x <;> cases y
    all_goals
      go_enter Tryd.func7, Tryd.ntmps7
      go_wp2_with (first
        | ((with_reducible refine (hB.at (by assumption)).mono ?_); rintro e w1 ⟨rfl, h1⟩)
        | ((with_reducible refine (hBa.at (by assumption)).mono ?_); rintro e w1 ⟨rfl, h1⟩)
        | ((with_reducible refine (hBb.at (by assumption)).mono ?_); rintro e w1 ⟨rfl, h1⟩)
        | ((with_reducible refine (hTa.at (by assumption)).mono ?_); rintro e w1 ⟨rfl, h1⟩)
        | ((with_reducible refine (hWk.at (by assumption)).mono ?_); rintro e w1 ⟨rfl, h1⟩))
      go_ret
      exact ⟨rfl, by assumption⟩
  · have hTd := hTc rfl
    clear hTc
    cases x <;> cases y
    all_goals
      go_enter Tryd.func7, Tryd.ntmps7
      go_wp2_with (first
        | ((with_reducible refine (hB.at (by assumption)).mono ?_); rintro e w1 ⟨rfl, h1⟩)
        | ((with_reducible refine (hBa.at (by assumption)).mono ?_); rintro e w1 ⟨rfl, h1⟩)
        | ((with_reducible refine (hBb.at (by assumption)).mono ?_); rintro e w1 ⟨rfl, h1⟩)
        | ((with_reducible refine (hTa.at (by assumption)).mono ?_); rintro e w1 ⟨rfl, h1⟩)
        | ((with_reducible refine (hTd.at (by assumption)).mono ?_); rintro e w1 ⟨rfl, h1⟩)
        | ((with_reducible refine (hTb.at (by assumption)).mono ?_); rintro e w1 ⟨rfl, h1⟩)
        | ((with_reducible refine (hWk.at (by assumption)).mono ?_); rintro e w1 ⟨rfl, h1⟩))
      go_ret
      exact ⟨rfl, by assumption⟩
end Go.Proofs.YtaiglcjeikcboaaDoor.Char
