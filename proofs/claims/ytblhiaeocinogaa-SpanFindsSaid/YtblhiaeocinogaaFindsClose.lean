/- SpanFinds: what stands ahead of, and behind, any text in any other one is as the document says (of texts of at most 3000 bytes; else characters work); whatever number the library's own MaxLen holds. Conditions: none. -/
import Derived.Test.YtblhiaeocinogaaLawFinds
import Derived.Test.YtblhiaeocinogaaRows
import Derived.ProofKit
import Derived.OpenShut
import Derived.JoinedCond
import Derived.SizedLaws
import Derived.HandedShaped
namespace Go.Proofs.Ytblhiaeocinogaa.spanFinds
open Go.ChangeShapes Go.WideShapes Go.ChangeAt Go.RowKit Go.Proofs.Ytblhiaeocinogaa.Char
open Go.ChangeMaps (open_string shut_string)

theorem own : ownKnob Try.prog.godebug = none := by kernel_rfl

theorem contract (H : Type) (enc : TypeId × Value → H) (W : World) (base : Nat) (args : Array Value) (ds gs : List (DataW H)) (before : List MemPlace)
    (hval : ∀ (j : Nat) t v, Try.f4.params[j]? = some t → args[j]? = some v → Value.okWide Try.prog W .any base t v)
    (hW : DataW.Whole enc Try.prog Try.f4.params.toList Rows.spanFindsSpec.vars false W args.toList ds gs before)
    (hz : (DataW.weightsEach Try.prog (Try.f4.params.toList ++ Rows.spanFindsSpec.plain.varTypes Try.prog) (ds ++ gs)).all (· ≤ reachBytes) = true) (hS : W.ShapedOpen Try.prog) :
    Calls Try.prog 4 args W fun e W' => ∃ v, e = .returned v ∧ Rows.spanFindsSpec.post enc Try.prog Try.f4 false true false false W args v W' := by
  have hW' := hW
  obtain ⟨p, q, hA0, hV, rfl, hfz, hnd⟩ := hW
  have hA : DataW.TrodAll enc Try.prog W 0 (fun _ => true) true Try.f4.params.toList args.toList ds p := hA0
  rw [Try.params4] at hA hval
  obtain ⟨v1, vs1, d1, ds1, p1, q1, hargs, rfl, rfl, h1, r1⟩ := trodAll_cons hA
  obtain ⟨v2, vs2, d2, ds2, p2, q2, rfl, rfl, rfl, h2, r2⟩ := trodAll_cons r1
  obtain ⟨rfl, rfl, rfl⟩ := trodAll_nil r2
  obtain rfl : args = #[v1, v2] := by cases args; simp_all
  obtain ⟨rfl, rfl⟩ := trodVars_none hV
  obtain ⟨a1, rfl, rfl, rfl, w1⟩ := open_string Try.underlying9 (hval 0 9 v1 rfl rfl) h1
  obtain ⟨a2, rfl, rfl, rfl, w2⟩ := open_string Try.underlying9 (hval 1 9 v2 rfl rfl) h2
  clear hA0
  simp only [List.append_nil] at hW'
  have z1 : a1.size ≤ 140737488351232 := by
    have h := sized_string hz (j := 0) (t := 9) (bytes := a1.data.toList) (by rw [Try.params4]; rfl) (by rfl)
    have e : a1.data.toList.length = a1.size := by rw [Array.length_toList]; rfl
    have hr : reachBytes ≤ 140737488351232 := by decide
    omega
  have z2 : a2.size ≤ 140737488351232 := by
    have h := sized_string hz (j := 1) (t := 9) (bytes := a2.data.toList) (by rw [Try.params4]; rfl) (by rfl)
    have e : a2.data.toList.length = a2.size := by rw [Array.length_toList]; rfl
    have hr : reachBytes ≤ 140737488351232 := by decide
    omega
  refine (finds_law a1 a2 W (maxL_of hS)).mono fun e W' ⟨he, hb⟩ => ?_
  subst he
  have e1 : Rows.spanFindsSpec.fn H ([.lit (.string a1.data.toList), .lit (.string a2.data.toList)] ++ []) = { results := [.lit (.bool true)], args := [.lit (.string a1.data.toList), .lit (.string a2.data.toList)] } := rfl
  refine ⟨_, rfl, _, _, _, [], [], [], hW', ?_, ?_, ?_, hb.frame _, fun h => by cases h⟩
  · rw [e1]; exact trodAll_cons_mk (shut_bool Try.underlying4 _) trodAll_mk0
  · rw [e1]; exact trodAll_cons_mk (shut_string Try.underlying9 w1) (trodAll_cons_mk (shut_string Try.underlying9 w2) trodAll_mk0)
  · rw [e1]; rfl

set_option maxRecDepth 100000 in
theorem lifted (os : Os) (started : os.Started) (H : Type) (enc : TypeId × Value → H) :
    ReturnsInHanded {} Try.checked os 4 .any (Rows.spanFindsSpec.pre6 enc Try.prog Try.f4 Rows.spanFindsRow.domain false) (Rows.spanFindsSpec.post enc Try.prog Try.f4 false true false false) := by
  refine returnsInHanded_of_change_shaped (C := Try.checked) own started (by kernel_rfl) Try.func4
    (ChangeSpec.witness6 (enc := enc) (C := Try.checked) false ⟨#[], #[.string ⟨#[]⟩, .string ⟨#[]⟩], []⟩ 8 (by kernel_rfl) (by kernel_rfl) (by kernel_rfl) (by kernel_rfl)) ?_
  intro W base args ds gs before hval hW _ hz hS _
  exact contract H enc W base args ds gs before hval hW hz hS

theorem said : Rows.SpanFindsSaid :=
  OpenClaim.holds_of_wide 4 Try.f4 rfl rfl rfl rfl rfl rfl rfl ⟨rfl, rfl, rfl, rfl, rfl⟩ rfl rfl rfl rfl rfl (by kernel_rfl) Try.func4 (by kernel_rfl)
    (of_decide_eq_true (by kernel_rfl)) (by unfold Func.isWrapper; first | (rw [if_pos (by decide +kernel)]; kernel_rfl) | (rw [if_neg (by decide +kernel)]; exact ⟨rfl, rfl⟩))
    (fun os started H enc _ => lifted os started H enc)
end Go.Proofs.Ytblhiaeocinogaa.spanFinds
