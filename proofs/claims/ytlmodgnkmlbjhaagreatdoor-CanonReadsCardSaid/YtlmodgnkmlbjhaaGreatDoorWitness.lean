import Derived.Test.YtlmodgnkmlbjhaaGreatDoorCards
import Derived.Test.YtlmodgnkmlbjhaaGreatDoorTie
import Derived.Test.YtlmodgnkmlbjhaaGreatDoorPkScanS
import Derived.PinnedBridge
import Derived.Lay
import Derived.Lib.LaidIn
import Derived.Lib.LaidU8T
import Derived.Lib.LaidTab
import Derived.Deep.DeepHandedRow
import Derived.Deep.DeepWitnessRowRef
import Derived.ProofKit
import Derived.OpenShut
import Derived.JoinedCond
import Derived.SizedLaws
import Derived.Shelf.Vars
import Derived.LaidLaws
namespace Go.Proofs.YtlmodgnkmlbjhaaGreatDoor
namespace Char
open Go.ChangeShapes Go.WideShapes Go.ChangeAt Go.RowKit
theorem own : ownKnob Tryz.prog.godebug = none := by kernel_rfl
def laid : List (String × DataW Unit) := [("math/bits.deBruijn32tab", Rows.laid_math_bits_deBruijn32tab), ("math/bits.deBruijn64tab", Rows.laid_math_bits_deBruijn64tab), ("internal/strconv.uint64pow10", Rows.laid_internal_strconv_uint64pow10), ("unicode/utf8.acceptRanges", Rows.laid_unicode_utf8_acceptRanges), ("strconv.ErrRange", Rows.laid_strconv_ErrRange), ("strconv.ErrSyntax", Rows.laid_strconv_ErrSyntax), ("unicode.asciiFold", Rows.laid_unicode_asciiFold), ("unicode.caseOrbit", Rows.laid_unicode_caseOrbit), ("unicode.CaseRanges", Rows.laid_unicode_CaseRanges), ("unicode/utf8.first", Rows.laid_unicode_utf8_first)]
def laidL : List (String × DataW Unit) := [("math/bits.deBruijn32tab", Rows.laid_math_bits_deBruijn32tab), ("math/bits.deBruijn64tab", Rows.laid_math_bits_deBruijn64tab), ("internal/strconv.uint64pow10", Rows.laid_internal_strconv_uint64pow10), ("unicode/utf8.acceptRanges", Lib.acceptData), ("strconv.ErrRange", Rows.laid_strconv_ErrRange), ("strconv.ErrSyntax", Rows.laid_strconv_ErrSyntax), ("unicode.asciiFold", Rows.laid_unicode_asciiFold), ("unicode.caseOrbit", Rows.laid_unicode_caseOrbit), ("unicode.CaseRanges", Rows.laid_unicode_CaseRanges), ("unicode/utf8.first", Lib.firstData)]
theorem accept_eq : (Rows.laid_unicode_utf8_acceptRanges : DataW Unit) = Lib.acceptData := by kernel_rfl
theorem first_eq : Rows.laid_unicode_utf8_first = Lib.firstData := Pinned.utf8First_eq
theorem laid_eq : laid = laidL := by
 unfold laid laidL
 rw [accept_eq, first_eq]
noncomputable def laidWorld (os : Os) : World := World.laidAll Tryz.prog os laid
theorem laid_met (os : Os) (args : Array Value) : laidMet Tryz.prog laid ((laidWorld os).forCall (fun _ _ => 0) ⟨#[], args, []⟩).memory := laidMet_laidAll _ (by kernel_rfl) (by kernel_rfl)
theorem errV_of {w : World} {g : Nat} {t : TypeId} {ms : Array (String × TypeId)} {n nm : String} {d : DataW Unit} (hg : Tryz.prog.globalNamed n = some g) (ht : (Tryz.prog.globals[g]?).map (·.type) = some t)
  (hi : Tryz.prog.underlying t = some (.interface ms)) (h : Lib.VarReads Tryz.prog w n (.iface nm d)) : ErrV w g := by
 obtain ⟨g0, t0, cs, fuel, p, hg0, ht0, hv0, hd0⟩ := h
 obtain rfl := Option.some.inj (hg.symm.trans hg0)
 obtain rfl := Option.some.inj (ht.symm.trans ht0)
 obtain ⟨l⟩ := cs
 obtain ⟨f1, u, v, rfl, _, _⟩ := iface_of_trod hi hd0
 exact ⟨.iface u v, by simpa using World.var?_cell hg0 hv0 0, .inr ⟨u, v, rfl⟩⟩
theorem maxL_of {W : World} (h : W.ShapedOpen Tryz.prog) : MaxL W :=
 cell_of_shapedOpen_int (t := 3) (zero := #[.int .i64 0]) h (of_decide_eq_true (by kernel_rfl)) (by kernel_rfl) rfl (by kernel_rfl) (by kernel_rfl) Tryz.underlying3
theorem tabs_of {W : World} (hL : laidMetH Tryz.prog laid W) : Tabs W := by
 rw [laid_eq] at hL
 exact utf8Tabs_of_readsT (U8Types.of196 laysValid) ⟨by kernel_rfl, by kernel_rfl, by kernel_rfl, by kernel_rfl, by kernel_rfl, by kernel_rfl, by kernel_rfl⟩ (Lib.laidMet.reads hL (by unfold laidL; simp)) (Lib.laidMet.reads hL (by unfold laidL; simp))
def foldTab : List Int := ((List.range 65).map fun (n : Nat) => (n : Int)) ++ ((List.range 26).map fun (n : Nat) => ((n + 97 : Nat) : Int)) ++ ((List.range 6).map fun (n : Nat) => ((n + 91 : Nat) : Int)) ++ [65, 66, 67, 68, 69, 70, 71, 72, 73, 74, 8490, 76, 77, 78, 79, 80, 81, 82, 383, 84, 85, 86, 87, 88, 89, 90] ++ [123, 124, 125, 126, 127]
theorem fold_eq : (Rows.laid_unicode_asciiFold : DataW Unit) = Lib.tabData .u16 foldTab := by kernel_rfl
theorem gl_of {W : World} (hL : laidMetH Tryz.prog laid W) (hS : W.ShapedOpen Tryz.prog) : Gl6 W := by
 refine ⟨⟨tabs_of hL, maxL_of hS, ?_, ?_⟩, ?_⟩
 ·rw [laid_eq] at hL
  exact errV_of (n := "strconv.ErrSyntax") (t := 146) (by kernel_rfl) (by kernel_rfl) Tryz.underlying146 (Lib.laidMet.reads hL (d := Rows.laid_strconv_ErrSyntax) (by unfold laidL; simp))
 ·rw [laid_eq] at hL
  exact errV_of (n := "strconv.ErrRange") (t := 146) (by kernel_rfl) (by kernel_rfl) Tryz.underlying146 (Lib.laidMet.reads hL (d := Rows.laid_strconv_ErrRange) (by unfold laidL; simp))
 ·rw [laid_eq] at hL
  have h := Lib.laidMet.reads hL (n := "unicode.asciiFold") (d := Rows.laid_unicode_asciiFold) (by unfold laidL; simp)
  rw [fold_eq] at h
  obtain ⟨g0, t0, cs, fuel, p, hg0, ht0, hv0, hd0⟩ := h
  obtain rfl := Option.some.inj (Eq.symm hg0 |>.symm.symm.trans (show Tryz.prog.globalNamed "unicode.asciiFold" = some 2 by kernel_rfl))
  obtain rfl := Option.some.inj (ht0.symm.trans (show (Tryz.prog.globals[2]?).map (·.type) = some 133 by kernel_rfl))
  obtain ⟨l⟩ := cs
  have hcs := Lib.cells_of_tab (n := 128) (e := 132) (by kernel_rfl) (by kernel_rfl) (by kernel_rfl) (by kernel_rfl) hd0
  have hc : ∀ i v, l[i]? = some v → W.cell? ⟨2, i, none⟩ = some v := fun i v hi => by
   have := World.var?_cell hg0 hv0 i
   simpa [hi] using this
  simp only at hcs
  subst hcs
  exact ⟨⟨hc 120 _ (by kernel_rfl), hc 88 _ (by kernel_rfl)⟩, ⟨hc 109 _ (by kernel_rfl), hc 77 _ (by kernel_rfl)⟩, hc 108 _ (by kernel_rfl), hc 76 _ (by kernel_rfl)⟩
end Char
end Go.Proofs.YtlmodgnkmlbjhaaGreatDoor
