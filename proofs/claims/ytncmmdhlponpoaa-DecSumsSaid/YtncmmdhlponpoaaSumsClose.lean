/- DecSums: any two numbers, added, and taken off, are the document's. Conditions: none. -/
import Derived.Test.YtncmmdhlponpoaaLaws
import Derived.Test.YtncmmdhlponpoaaRows
import Derived.ProofKit
import Derived.OpenShut
import Derived.JoinedCond
import Derived.SizedLaws
import Derived.Lib.SmallJoins
namespace Go.Proofs.Ytncmmdhlponpoaa.decSums
open Go.ChangeShapes Go.WideShapes Go.ChangeAt Go.RowKit Go.Proofs.Ytncmmdhlponpoaa.Char Go.Joins
open Go.ChangeMaps (open_string shut_string)

theorem own : ownKnob Try.prog.godebug = none := by kernel_rfl

theorem cells23 : Try.prog.cellsOf 23 = 2 := by kernel_rfl
theorem contract (H : Type) (enc : TypeId × Value → H) (W : World) (base : Nat) (args : Array Value) (ds gs : List (DataW H)) (before : List MemPlace)
    (hval : ∀ (j : Nat) t v, Try.f3.params[j]? = some t → args[j]? = some v → Value.okWide Try.prog W .any base t v)
    (hW : DataW.Whole enc Try.prog Try.f3.params.toList Rows.decSumsSpec.vars false W args.toList ds gs before) :
    Calls Try.prog 3 args W fun e W' => ∃ v, e = .returned v ∧ Rows.decSumsSpec.post enc Try.prog Try.f3 false true false false W args v W' := by
  have hW' := hW
  obtain ⟨p, q, hA0, hV, rfl, hfz, hnd⟩ := hW
  have hA : DataW.TrodAll enc Try.prog W 0 (fun _ => true) true Try.f3.params.toList args.toList ds p := hA0
  rw [Try.params3] at hA hval
  obtain ⟨v1, vs1, d1, ds1, p1, q1, hargs, rfl, rfl, h1, r1⟩ := trodAll_cons hA
  obtain ⟨v2, vs2, d2, ds2, p2, q2, rfl, rfl, rfl, h2, r2⟩ := trodAll_cons r1
  obtain ⟨rfl, rfl, rfl⟩ := trodAll_nil r2
  obtain rfl : args = #[v1, v2] := by cases args; simp_all
  obtain ⟨rfl, rfl⟩ := trodVars_none hV
  obtain ⟨c1x0, c1x1, y1x0, y1x1, m1, rfl, rfl, rfl, hy1x0, hy1x1⟩ := open_agg2 Try.underlying23 (by kernel_rfl) cells23 (hval 0 23 v1 rfl rfl) h1
  obtain ⟨a1x0, e1x0, rfl, w1x0⟩ := DataW.trod_int Try.underlying3 hy1x0
  obtain ⟨a1x1, e1x1, rfl, w1x1⟩ := DataW.trod_int Try.underlying2 hy1x1
  simp at e1x0 e1x1
  subst e1x0 e1x1
  obtain ⟨c2x0, c2x1, y2x0, y2x1, m2, rfl, rfl, rfl, hy2x0, hy2x1⟩ := open_agg2 Try.underlying23 (by kernel_rfl) cells23 (hval 1 23 v2 rfl rfl) h2
  obtain ⟨a2x0, e2x0, rfl, w2x0⟩ := DataW.trod_int Try.underlying3 hy2x0
  obtain ⟨a2x1, e2x1, rfl, w2x1⟩ := DataW.trod_int Try.underlying2 hy2x1
  simp at e2x0 e2x1
  subst e2x0 e2x1
  clear hA0
  simp only [List.append_nil] at hW'
  refine (sums_law a1x0 a1x1 a2x0 a2x1 W (bounds_i64 w1x1) (bounds_i64 w2x1)).mono fun e W' ⟨he, hb⟩ => ?_
  subst he
  have e1 : Rows.decSumsSpec.fn H ([.agg [.lit (.int .i64 a1x0), .lit (.int .i64 a1x1)], .agg [.lit (.int .i64 a2x0), .lit (.int .i64 a2x1)]] ++ []) = { results := [.lit (.bool true)], args := [.agg [.lit (.int .i64 a1x0), .lit (.int .i64 a1x1)], .agg [.lit (.int .i64 a2x0), .lit (.int .i64 a2x1)]] } := rfl
  refine ⟨_, rfl, _, _, _, [], [], [], hW', ?_, ?_, ?_, hb.frame _, fun h => by cases h⟩
  · rw [e1]; exact trodAll_cons_mk (shut_bool Try.underlying4 _) trodAll_mk0
  · rw [e1]; exact trodAll_cons_mk (shut_agg2 (y0 := (.lit (.int .i64 a1x0), [])) (y1 := (.lit (.int .i64 a1x1), [])) Try.underlying23 (by kernel_rfl) cells23 ⟨1, by simp [DataW.trod, Try.underlying3, w1x0]⟩ ⟨1, by simp [DataW.trod, Try.underlying2, w1x1]⟩) (trodAll_cons_mk (shut_agg2 (y0 := (.lit (.int .i64 a2x0), [])) (y1 := (.lit (.int .i64 a2x1), [])) Try.underlying23 (by kernel_rfl) cells23 ⟨1, by simp [DataW.trod, Try.underlying3, w2x0]⟩ ⟨1, by simp [DataW.trod, Try.underlying2, w2x1]⟩) trodAll_mk0)
  · rw [e1]; rfl

set_option maxRecDepth 100000 in
theorem lifted (os : Os) (started : os.Started) (H : Type) (enc : TypeId × Value → H) :
    ReturnsInHanded {} Try.checked os 3 .any (Rows.decSumsSpec.pre6 enc Try.prog Try.f3 Rows.decSumsRow.domain false) (Rows.decSumsSpec.post enc Try.prog Try.f3 false true false false) := by
  refine returnsInHanded_of_change (C := Try.checked) own started (by kernel_rfl) Try.func3
    (ChangeSpec.witness6 (enc := enc) (C := Try.checked) false ⟨#[], #[.agg #[.int .i64 0, .int .i64 0], .agg #[.int .i64 0, .int .i64 0]], []⟩ 8 (by kernel_rfl) (by kernel_rfl) (by kernel_rfl) (by kernel_rfl)) ?_
  intro W base args ds gs before hval hW _ _
  exact contract H enc W base args ds gs before hval hW

theorem said : Rows.DecSumsSaid :=
  OpenClaim.holds_of_wide 3 Try.f3 rfl rfl rfl rfl rfl rfl rfl ⟨rfl, rfl, rfl, rfl, rfl⟩ rfl rfl rfl rfl rfl (by kernel_rfl) Try.func3 (by kernel_rfl)
    (of_decide_eq_true (by kernel_rfl)) (by unfold Func.isWrapper; first | (rw [if_pos (by decide +kernel)]; kernel_rfl) | (rw [if_neg (by decide +kernel)]; exact ⟨rfl, rfl⟩))
    (fun os started H enc _ => lifted os started H enc)
end Go.Proofs.Ytncmmdhlponpoaa.decSums
