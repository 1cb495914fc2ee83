/- Texts as lists of bytes: small facts. The library's contracts on TrimFunc, CutPrefix, Repeat in plain words. -/
import Derived.Test.YteooaibbblfmjaaDoorShelf4
import Derived.Test.YteooaibbblfmjaaDoorTrim
import Derived.Test.YteooaibbblfmjaaDoorSpace
namespace Go.Proofs.YteooaibbblfmjaaDoor.Char
open Go.RowKit Go.Shelf Go.Lib

def bs (l : List UInt8) : ByteArray := ⟨l.toArray⟩
theorem bs_list (l : List UInt8) : (bs l).data.toList = l := rfl
theorem bs_of (s : ByteArray) : bs s.data.toList = s := rfl
theorem bs_size (l : List UInt8) : (bs l).size = l.length := by show l.toArray.size = _; rw [List.size_toArray]
theorem bs_ext (l : List UInt8) (i j : Nat) : (bs l).extract i j = bs ((l.drop i).take (j - i)) := by
  rw [← bs_of ((bs l).extract i j), extract_data]
  rfl
theorem bs_add (a b : List UInt8) : bs a ++ bs b = bs (a ++ b) := by
  rw [← bs_of (bs a ++ bs b), ByteArray.data_append, Array.toList_append]
  rfl
theorem bs_get (l : List UInt8) (i : Nat) (h : i < (bs l).size) : (bs l)[i] = l.getD i 0 := by
  have h' : i < l.length := by rw [← bs_size]; exact h
  have e : l.getD i 0 = l[i] := by simp [List.getD, List.getElem?_eq_getElem h']
  rw [e]
  rfl
theorem ret_str {a b : List UInt8} (h : a = b) : Ending.returned (.string (bs a)) = .returned (.string (bs b)) := by rw [h]

/-- the two tables of unicode/utf8, as TrimFunc asks them -/
def Tabs (w : World) : Prop := Lib.Utf8Tabs 2 3 w
theorem Tabs.below {w w' : World} (h : Tabs w) (hb : Below w.heap.size w w') : Tabs w' := Utf8Tabs_below h hb

theorem trim_space (l : List UInt8) (w : World) (hs : l.length ≤ 9223372036854775807) (hT : Tabs w) :
    Calls Tryd.prog 33 #[.string (bs l), .func (.func 34) #[] #[]] w fun e w' => e = .returned (.string (bs (trimL l))) ∧ Below w.heap.size w w' := by
  refine (Any.strings_TrimFunc_grows layTrim 34 #[] (enters_of Tryd.func34 (by kernel_rfl) rfl) spR (bs l) w (by rw [bs_size]; exact hs) hT ?_).mono ?_
  · intro W x _ _
    refine (space_any (x : Int) W).mono ?_
    rintro e w' ⟨rfl, hb⟩
    exact ⟨rfl, hb⟩
  · rintro e w' ⟨rfl, hb⟩
    refine ⟨?_, hb⟩
    rw [← bs_of (trimF spR (bs l)), trim_sp]
    rfl

/-- a text without a minus sign ahead, and whether there was one -/
def unsg : List UInt8 → List UInt8 × Bool
  | 45 :: t => (t, true)
  | l => (l, false)
theorem unsg_eq (l : List UInt8) : (Lib.trimPrefix l [45], Lib.hasPrefix l [45]) = unsg l := by
  match l with
  | [] => rfl
  | b :: t =>
    by_cases h : b = 45
    · subst h
      simp [Lib.trimPrefix, Lib.hasPrefix, unsg]
    · have e : unsg (b :: t) = (b :: t, false) := by
        unfold unsg
        split
        · rename_i h1; injection h1 with h2; exact absurd h2 h
        · rfl
      have hp : Lib.hasPrefix (b :: t) [45] = false := by
        show (45 == b && List.isPrefixOf [] t) = false
        rw [Bool.and_eq_false_iff, beq_eq_false_iff_ne]
        exact .inl (Ne.symm h)
      rw [e, hp]
      unfold Lib.trimPrefix
      rw [hp]
      rfl
theorem cut_minus (l : List UInt8) (w : World) :
    Calls Tryd.prog 32 #[.string (bs l), .string ⟨#[45]⟩] w fun e w' => e = .returned (.tuple #[.string (bs (unsg l).1), .bool (unsg l).2]) ∧ w' = w := by
  refine (Any.strings_CutPrefix layCut (bs l) ⟨#[45]⟩ w).mono ?_
  rintro e w' ⟨rfl, rfl⟩
  refine ⟨?_, rfl⟩
  rw [bs_list, ← unsg_eq]
  rfl

theorem rep_nought (c : Nat) (w : World) (hc : c ≤ 6) :
    Calls Tryd.prog 71 #[.string ⟨#[48]⟩, .int .i64 (c : Int)] w fun e w' => e = .returned (.string (bs (List.replicate c (chr 0)))) ∧ Below w.heap.size w w' := by
  refine (Any.strings_Repeat layRep layRepX ⟨#[48]⟩ c w (by omega) (by show 1 * c ≤ _; omega)).mono ?_
  rintro e w' ⟨rfl, hb⟩
  refine ⟨?_, hb⟩
  have h := Lib.repeatL_replicate 48 1 c
  rw [Nat.mul_one] at h
  show Ending.returned (.string ⟨(Lib.repeatL [48] c).toArray⟩) = _
  rw [show ([48] : List UInt8) = List.replicate 1 48 from rfl, h]
  rfl
end Go.Proofs.YteooaibbblfmjaaDoor.Char
