/- Texts as lists of bytes, and what the walk asks of them. -/
import Derived.Test.YtpimdmjhnogelaaPlain
import Derived.Test.YtpimdmjhnogelaaProg
import Derived.WalkKit
import Derived.Below
import Derived.Outline
import Derived.Lib.Hide
import Derived.Laws.Strings3
import Derived.WideShapes
namespace Go.Proofs.Ytpimdmjhnogelaa.Char
open Go.RowKit Go.Lib

def bs (l : List UInt8) : ByteArray := ⟨l.toArray⟩
theorem bs_list (l : List UInt8) : (bs l).data.toList = l := rfl
theorem bs_of (s : ByteArray) : bs s.data.toList = s := rfl
theorem bs_size (l : List UInt8) : (bs l).size = l.length := by show l.toArray.size = _; rw [List.size_toArray]
theorem bs_ext (l : List UInt8) (i j : Nat) : (bs l).extract i j = bs ((l.drop i).take (j - i)) := by
  rw [← bs_of ((bs l).extract i j), extract_data]
  rfl
theorem bs_add (a b : List UInt8) : bs a ++ bs b = bs (a ++ b) := by
  rw [← bs_of (bs a ++ bs b), ByteArray.data_append, Array.toList_append]
  rfl
theorem bs_get (l : List UInt8) (i : Nat) (h : i < (bs l).size) : (bs l)[i] = l.getD i 0 := by
  have h' : i < l.length := by rw [← bs_size]; exact h
  have e : l.getD i 0 = l[i] := by simp [List.getD, List.getElem?_eq_getElem h']
  rw [e]
  rfl
theorem ret_str {a b : List UInt8} (h : a = b) : Ending.returned (.string (bs a)) = .returned (.string (bs b)) := by rw [h]
theorem bs_tl (l : List UInt8) : (bs l).toList = l := by rw [toList_data]; rfl
theorem drop_cons (l : List UInt8) (k : Nat) (h : k < l.length) : l.drop k = l.getD k 0 :: l.drop (k + 1) := by
  have hg : l.getD k 0 = l[k] := by simp [List.getD, List.getElem?_eq_getElem h]
  rw [List.drop_eq_getElem_cons h, hg]
/-- c == ".." of one byte -/
theorem eq_one (b x : UInt8) (v : Bool) (h : (b == x) = v) : ((bs [b]).toList == [x]) = v := by
  rw [bs_tl, ← h]
  simp
theorem ne_one (b x : UInt8) (h : b ≠ x) : ((bs [b]).toList == [x]) = false := eq_one b x false (beq_eq_false_iff_ne.2 h)
/-- s[k : k+1] -/
theorem bs_one (l : List UInt8) (k : Nat) (h : k < l.length) : (bs l).extract k (k + 1) = bs [l.getD k 0] := by
  rw [bs_ext, drop_cons l k h, Nat.add_sub_cancel_left]
  rfl
theorem slice_one (l : List UInt8) (k : Nat) (h : k < l.length) (wx : World) : (Instr.slice 9 (.string (bs l)) (some (.int .i64 (k : Int))) (some (.int .i64 ((k : Int) + 1))) none).run Try.prog wx = .ok (.string (bs [l.getD k 0])) wx := by
  have := run_slice_string (P := Try.prog) wx 9 (bs l) .i64 .i64 (k : Int) ((k : Int) + 1) Try.underlying9 (by omega) (by omega) (by rw [bs_size]; omega)
  rw [show (k : Int).toNat = k by omega, show ((k : Int) + 1).toNat = k + 1 by omega, bs_one l k h] at this
  exact this
/-- a + b -/
theorem add_bs (a b : List UInt8) (ha : a.length ≤ 1048576) (hb : b.length ≤ 1048576) (wx : World) : (Op.stringOp .add (bs a) (bs b)).run Try.prog wx = .ok (.string (bs (a ++ b))) wx := by
  have h1 := bs_size a
  have h2 := bs_size b
  rw [run_string_add wx (bs a) (bs b) (by omega) (by omega), bs_add]
end Go.Proofs.Ytpimdmjhnogelaa.Char
