import Derived.Test.YtlmodgnkmlbjhaaGreatDoorPkMat
import Derived.Test.YtlmodgnkmlbjhaaGreatDoorProg
import Derived.WalkKit
import Derived.Below
import Derived.Outline
import Derived.Lib.Hide
import Derived.Laws.Strings3
import Derived.WideShapes
import Derived.Shelf.Strings.BuilderK
import Derived.RangeFuncOwn
namespace Go.Proofs.YtlmodgnkmlbjhaaGreatDoor
namespace Char
open Go.RowKit Go.Lib
def bs (l : List UInt8) : ByteArray := ⟨l.toArray⟩
theorem bs_list (l : List UInt8) : (bs l).data.toList = l := rfl
theorem bs_of (s : ByteArray) : bs s.data.toList = s := rfl
theorem bs_size (l : List UInt8) : (bs l).size = l.length := by show l.toArray.size = _; rw [List.size_toArray]
theorem bs_ext (l : List UInt8) (i j : Nat) : (bs l).extract i j = bs ((l.drop i).take (j - i)) := by
 rw [← bs_of ((bs l).extract i j), extract_data]
 rfl
theorem bs_add (a b : List UInt8) : bs a ++ bs b = bs (a ++ b) := by
 rw [← bs_of (bs a ++ bs b), ByteArray.data_append, Array.toList_append]
 rfl
theorem bs_get (l : List UInt8) (i : Nat) (h : i < (bs l).size) : (bs l)[i] = l.getD i 0 := by
 have h' : i < l.length := by rw [← bs_size]; exact h
 have e : l.getD i 0 = l[i] := by simp [List.getD, List.getElem?_eq_getElem h']
 rw [e]
 rfl
theorem ret_str {a b : List UInt8} (h : a = b) : Ending.returned (.string (bs a)) = .returned (.string (bs b)) := by rw [h]
theorem bs_tl (l : List UInt8) : (bs l).toList = l := by rw [toList_data]; rfl
theorem drop_cons (l : List UInt8) (k : Nat) (h : k < l.length) : l.drop k = l.getD k 0 :: l.drop (k + 1) := by
 have hg : l.getD k 0 = l[k] := by simp [List.getD, List.getElem?_eq_getElem h]
 rw [List.drop_eq_getElem_cons h, hg]
theorem eq_one (b x : UInt8) (v : Bool) (h : (b == x) = v) : ((bs [b]).toList == [x]) = v := by
 rw [bs_tl, ← h]
 simp
theorem ne_one (b x : UInt8) (h : b ≠ x) : ((bs [b]).toList == [x]) = false := eq_one b x false (beq_eq_false_iff_ne.2 h)
theorem bs_one (l : List UInt8) (k : Nat) (h : k < l.length) : (bs l).extract k (k + 1) = bs [l.getD k 0] := by
 rw [bs_ext, drop_cons l k h, Nat.add_sub_cancel_left]
 rfl
theorem slice_one (l : List UInt8) (k : Nat) (h : k < l.length) (wx : World) : (Instr.slice 9 (.string (bs l)) (some (.int .i64 (k : Int))) (some (.int .i64 ((k : Int) + 1))) none).run Tryz.prog wx = .ok (.string (bs [l.getD k 0])) wx := by
 have := run_slice_string (P := Tryz.prog) wx 9 (bs l) .i64 .i64 (k : Int) ((k : Int) + 1) Tryz.underlying9 (by omega) (by omega) (by rw [bs_size]; omega)
 rw [show (k : Int).toNat = k by omega, show ((k : Int) + 1).toNat = k + 1 by omega, bs_one l k h] at this
 exact this
theorem add_bs (a b : List UInt8) (ha : a.length ≤ 1048576) (hb : b.length ≤ 1048576) (wx : World) : (Op.stringOp .add (bs a) (bs b)).run Tryz.prog wx = .ok (.string (bs (a ++ b))) wx := by
 have h1 := bs_size a
 have h2 := bs_size b
 rw [run_string_add wx (bs a) (bs b) (by omega) (by omega), bs_add]
end Char
namespace Char
open Go.Shelf Go.RowKit
def layWriteRen : Go.Shelf.Ren := ⟨fun | 166 => 107 | 240 => 133 | 276 => 163 | n => n, fun | 0 => 0 | 3 => 3 | 4 => 4 | 5 => 5 | 9 => 9 | 20 => 20 | 37 => 42 | 70 => 41 | 72 => 44 | 75 => 146 | 80 => 50 | 164 => 192 | n => n, fun n => n⟩
theorem layWrite : Lays.n166 Tryz.prog layWriteRen := {
 mixed := by kernel_rfl
 f166 := Tryz.func107.trans (congrArg some (by kernel_rfl))
 f240 := Tryz.func133.trans (congrArg some (by kernel_rfl))
 f276 := Tryz.func163.trans (congrArg some (by kernel_rfl))
 t0 := Tryz.underlying0
 a0 := Tryz.isAgg0
 z0 := Tryz.sizeOf0
 v0 := Tryz.zeroValue0
 t3 := Tryz.underlying3
 a3 := Tryz.isAgg3
 z3 := Tryz.sizeOf3
 v3 := Tryz.zeroValue3
 t4 := Tryz.underlying4
 a4 := Tryz.isAgg4
 z4 := Tryz.sizeOf4
 v4 := Tryz.zeroValue4
 t9 := Tryz.underlying9
 a9 := Tryz.isAgg9
 z9 := Tryz.sizeOf9
 v9 := Tryz.zeroValue9
 t20 := Tryz.underlying20
 a20 := Tryz.isAgg20
 z20 := Tryz.sizeOf20
 v20 := Tryz.zeroValue20
 t37 := Tryz.underlying42
 a37 := Tryz.isAgg42
 z37 := Tryz.sizeOf42
 v37 := Tryz.zeroValue42
 t70 := Tryz.underlying41
 a70 := Tryz.isAgg41
 z70 := Tryz.sizeOf41
 v70 := Tryz.zeroValue41
 t72 := Tryz.underlying44
 a72 := Tryz.isAgg44
 z72 := Tryz.sizeOf44
 v72 := Tryz.zeroValue44
 t75 := Tryz.underlying146
 a75 := Tryz.isAgg146
 z75 := Tryz.sizeOf146
 v75 := Tryz.zeroValue146
 t164 := Tryz.underlying192
 a164 := Tryz.isAgg192
 z164 := Tryz.sizeOf192
 v164 := Tryz.zeroValue192 }
theorem layWriteX : Builder.Extra Tryz.prog layWriteRen := {
 sizeBuilder := by kernel_rfl
 liesBuilder := by kernel_rfl
 t5 := Tryz.underlying5
 a5 := Tryz.isAgg5
 z5 := Tryz.sizeOf5
 v5 := Tryz.zeroValue5
 infoByte := by kernel_rfl
 cellsByte := by kernel_rfl
 sizeByte := by kernel_rfl
 neB5 := by decide }
def layStringRen : Go.Shelf.Ren := ⟨fun | 169 => 19 | n => n, fun | 0 => 0 | 3 => 3 | 5 => 5 | 9 => 9 | 37 => 42 | 70 => 41 | 72 => 44 | 127 => 61 | n => n, fun n => n⟩
theorem layString : Lays.n169 Tryz.prog layStringRen := {
 mixed := by kernel_rfl
 f169 := Tryz.func19.trans (congrArg some (by kernel_rfl))
 t0 := Tryz.underlying0
 a0 := Tryz.isAgg0
 z0 := Tryz.sizeOf0
 v0 := Tryz.zeroValue0
 t3 := Tryz.underlying3
 a3 := Tryz.isAgg3
 z3 := Tryz.sizeOf3
 v3 := Tryz.zeroValue3
 t9 := Tryz.underlying9
 a9 := Tryz.isAgg9
 z9 := Tryz.sizeOf9
 v9 := Tryz.zeroValue9
 t37 := Tryz.underlying42
 a37 := Tryz.isAgg42
 z37 := Tryz.sizeOf42
 v37 := Tryz.zeroValue42
 t70 := Tryz.underlying41
 a70 := Tryz.isAgg41
 z70 := Tryz.sizeOf41
 v70 := Tryz.zeroValue41
 t72 := Tryz.underlying44
 a72 := Tryz.isAgg44
 z72 := Tryz.sizeOf44
 v72 := Tryz.zeroValue44
 t127 := Tryz.underlying61
 a127 := Tryz.isAgg61
 z127 := Tryz.sizeOf61
 v127 := Tryz.zeroValue61 }
theorem layStringX : Builder.Extra Tryz.prog layStringRen := {
 sizeBuilder := by kernel_rfl
 liesBuilder := by kernel_rfl
 t5 := Tryz.underlying5
 a5 := Tryz.isAgg5
 z5 := Tryz.sizeOf5
 v5 := Tryz.zeroValue5
 infoByte := by kernel_rfl
 cellsByte := by kernel_rfl
 sizeByte := by kernel_rfl
 neB5 := by decide }
theorem write_any (B b : Nat) (l : List UInt8) (s : ByteArray) (w : World) (h : Lib.IsBuilderF 44 5 B b (Lib.byteCells l) w) (hlen : l.length + s.size ≤ 140737488355328) (hBw : B ≤ w.heap.size) :
  Calls Tryz.prog 107 #[.pointer (some ⟨b, 0, none⟩), .string s] w fun e w' => e = .returned (.tuple #[.int .i64 s.size, .nilIface]) ∧
   Lib.IsBuilderF 44 5 B b (Lib.byteCells (l ++ s.data.toList)) w' ∧ Below B w w' ∧ Lib.OthersKept 5 (some b) w w' := by
 refine (Any.Builder_WriteString_k layWrite layWriteX B b _ s w h (by rw [Lib.byteCells_length]; exact hlen) hBw).mono ?_
 rintro e w' ⟨he, h1, h2, h3⟩
 refine ⟨he, ?_, h2, h3⟩
 rw [Lib.byteCells_append, ← Lib.strCells_eq]
 exact Or.inr h1
theorem string_any (B b : Nat) (l : List UInt8) (w : World) (h : Lib.IsBuilderF 44 5 B b (Lib.byteCells l) w) (hBw : B ≤ w.heap.size) :
  Calls Tryz.prog 19 #[.pointer (some ⟨b, 0, none⟩)] w fun e w' => e = .returned (.string ⟨l.toArray⟩) ∧
   Lib.IsBuilderF 44 5 B b (Lib.byteCells l) w' ∧ Below B w w' ∧ Lib.OthersKept 5 (some b) w w' :=
 Any.Builder_String_any_k layString layStringX B b l w h hBw
theorem builder_kept {T e : TypeId} {B b : Nat} {bs : List Value} {w w' : World} {row : Option Nat} (h : Lib.IsBuilderF T e B b bs w) (hg : w.grownBy w' row)
  (hr : ∀ r, row = some r → ∃ o : Obj, w.heap[r]? = some o ∧ o.isCells = false) : Lib.IsBuilderF T e B b bs w' := by
 have one : ∀ p, Lib.BuilderAtF T e B b p bs w → Lib.BuilderAtF T e B b p bs w' := by
  rintro p ⟨hB, v, hb, hown, hne⟩
  refine ⟨hB, v, ?_, hown.kept hg ?_, hne⟩
  ·refine (hg.block b (Array.getElem?_eq_some_iff.1 hb).1 (fun e1 => ?_)).trans hb
   obtain ⟨o, ho, hc⟩ := hr b e1.symm
   rw [hb] at ho; cases ho; cases hc
  ·rcases hown.2 with ⟨rfl, _⟩ | ⟨g, cap, cur, fz, rfl, _, hgg, _⟩
   ·exact .inl rfl
   ·refine .inr (fun e1 => ?_)
    obtain ⟨o, ho, hc⟩ := hr g e1.symm
    rw [hgg] at ho; cases ho; cases hc
 exact h.elim (fun x => .inl (one _ x)) (fun x => .inr (one _ x))
theorem builder_block {T e : TypeId} {B b : Nat} {bs : List Value} {w : World} (h : Lib.IsBuilderF T e B b bs w) : ∃ cs, w.heap[b]? = some (.cells cs T (0, 0)) := by
 rcases h with ⟨_, v, hb, _⟩ | ⟨_, v, hb, _⟩ <;> exact ⟨_, hb⟩
theorem others_keep {T e : TypeId} {B b : Nat} {bs : List Value} {w w' : World} (h : Lib.IsBuilderF T e B b bs w) (hk : Lib.OthersKept e (some b) w w') (hs : w.heap.size ≤ w'.heap.size) : KeepsOthers w w' := by
 obtain ⟨cs, hb⟩ := builder_block h
 refine ⟨hs, fun k o ho hc => hk k o ho (fun e1 => ?_) (fun c fz e1 => ?_)⟩
 ·cases e1; rw [hb] at ho; cases ho; cases hc
 ·subst e1; cases hc
theorem cells_own {W W' : World} {b : Nat} {cs : Array Value} {t : TypeId} {fz : Nat × Nat} {row : Option Nat} (h : W.heap[b]? = some (.cells cs t fz)) (hg : W.grownBy W' row)
  (hr : ∀ r, row = some r → ∃ o : Obj, W.heap[r]? = some o ∧ o.isCells = false) : W'.heap[b]? = some (.cells cs t fz) := by
 refine (hg.block b (Array.getElem?_eq_some_iff.1 h).1 (fun e1 => ?_)).trans h
 obtain ⟨o, ho, hc⟩ := hr b e1.symm
 rw [h] at ho; cases ho; cases hc
end Char
end Go.Proofs.YtlmodgnkmlbjhaaGreatDoor
