/- Str5 -/
import Derived.Test.YtognlnjamlhmhaaGreatDoorShelf5
import Derived.Test.YtognlnjamlhmhaaGreatDoorPkShelf
import Derived.Test.YtognlnjamlhmhaaGreatDoorPkBs
import Derived.Test.YtognlnjamlhmhaaGreatDoorPkMat
import Derived.Test.YtognlnjamlhmhaaGreatDoorPkIs
/- The library's contracts on WriteByte, WriteRune, TrimPrefix, Cut, CutPrefix, toError in plain words; what the world holds for them. -/
namespace Go.Proofs.YtognlnjamlhmhaaGreatDoor.Char
open Go.RowKit Go.Shelf Go.Lib

/-- a builder that holds these bytes -/
def Bld (B b : Nat) (l : List UInt8) (w : World) : Prop := Lib.IsBuilderF 140 5 B b (Lib.byteCells l) w
/-- what a call of a builder's leaves -/
def BldPost (B b : Nat) (l : List UInt8) (w w' : World) : Prop := Bld B b l w' ∧ Below B w w'
theorem byte_any (B b : Nat) (l : List UInt8) (c : UInt8) (w : World) (h : Bld B b l w) (hlen : l.length ≤ 1000000) (hBw : B ≤ w.heap.size) :
    Calls Tryz.prog 176 #[.pointer (some ⟨b, 0, none⟩), .int .u8 (c.toNat : Int)] w fun e w' => e = .returned .nilIface ∧ BldPost B b (l ++ [c]) w w' := by
  refine (Any.Builder_WriteByte_k layByte layByteX B b _ (c.toNat : Int) w h (by rw [Lib.byteCells_length]; omega) hBw).mono ?_
  rintro e w' ⟨he, h1, h2, h3⟩
  refine ⟨he, ?_, h2⟩
  unfold Bld
  rw [Lib.byteCells_append]
  exact Or.inr h1
theorem str_any (B b : Nat) (l s : List UInt8) (w : World) (h : Bld B b l w) (hlen : l.length + s.length ≤ 1000000) (hBw : B ≤ w.heap.size) :
    Calls Tryz.prog 117 #[.pointer (some ⟨b, 0, none⟩), .string (bs s)] w fun e w' => e = .returned (.tuple #[.int .i64 (s.length : Int), .nilIface]) ∧ BldPost B b (l ++ s) w w' := by
  have hs := bs_size s
  refine (write_any B b l (bs s) w h (by omega) hBw).mono ?_
  rintro e w' ⟨he, h1, h2, h3⟩
  exact ⟨by rw [he, hs], h1, h2⟩
theorem rune_any (B b : Nat) (l : List UInt8) (r : Int) (hr : isC r = true) (w : World) (h : Bld B b l w) (hlen : l.length ≤ 1000000) (hBw : B ≤ w.heap.size) :
    Calls Tryz.prog 175 #[.pointer (some ⟨b, 0, none⟩), .int .i32 r] w fun e w' => (∃ n : Int, e = .returned (.tuple #[.int .i64 n, .nilIface])) ∧ BldPost B b (l ++ encodeRune r) w w' := by
  have hc := isC_le hr
  refine (Any.Builder_WriteRune_k layRune layRuneX B b _ r (by omega) (by omega) w h (by rw [Lib.byteCells_length]; omega) hBw).mono ?_
  rintro e w' ⟨he, h1, h2, h3⟩
  refine ⟨⟨_, he⟩, ?_, h2⟩
  unfold Bld
  rw [Lib.byteCells_append, byteCells_encodeRune]
  exact Or.inr h1
theorem out_any (B b : Nat) (l : List UInt8) (w : World) (h : Bld B b l w) (hBw : B ≤ w.heap.size) :
    Calls Tryz.prog 118 #[.pointer (some ⟨b, 0, none⟩)] w fun e w' => e = .returned (.string (bs l)) ∧ Below B w w' :=
  (string_any B b l w h hBw).mono fun _ _ h => ⟨h.1, h.2.2.1⟩

theorem trim_nl (t : List UInt8) (w : World) : Calls Tryz.prog 177 #[.string (bs t), .string ⟨#[10]⟩] w fun e w' => e = .returned (.string (bs (nlL t))) ∧ w' = w :=
  Any.strings_TrimPrefix layTrimP (bs t) ⟨#[10]⟩ w
theorem cutp_any (l p : List UInt8) (w : World) : Calls Tryz.prog 126 #[.string (bs l), .string (bs p)] w fun e w' => e = .returned (.tuple #[.string (bs (if p.isPrefixOf l then l.drop p.length else l)), .bool (p.isPrefixOf l)]) ∧ w' = w :=
  Any.strings_CutPrefix layCutP (bs l) (bs p) w

theorem index_semi : ∀ t : List UInt8, index t [59] = if t.all noS then -1 else ((t.takeWhile noS).length : Int)
  | [] => rfl
  | b :: t => by
    have ih := index_semi t
    unfold index
    by_cases hb : b = 59
    · subst hb
      simp [noS]
    · have h1 : noS b = true := by unfold noS; simp [hb]
      have h2 : ([59] : List UInt8).isPrefixOf (b :: t) = false := by
        simp [List.isPrefixOf]
        exact fun h => hb h.symm
      rw [h2, ih]
      simp only [List.all_cons, h1, Bool.true_and, List.takeWhile_cons, if_true, List.length_cons, Bool.false_eq_true, if_false]
      by_cases ha : t.all noS = true
      · simp [ha]
      · simp only [ha, Bool.false_eq_true, if_false]
        rw [if_neg]
        · omega
        · simp only [beq_iff_eq]; omega
theorem cut_semi_eq (t : List UInt8) : cut t [59] = (t.takeWhile noS, (t.dropWhile noS).drop 1, !t.all noS) := by
  unfold cut
  rw [index_semi]
  have hw := List.takeWhile_append_dropWhile (p := noS) (l := t)
  by_cases ha : t.all noS = true
  · rw [if_pos ha, if_neg (by omega), ha]
    have h1 : t.takeWhile noS = t := by
      have : ∀ t : List UInt8, t.all noS = true → t.takeWhile noS = t := by
        intro t
        induction t with
        | nil => intro _; rfl
        | cons b t ih =>
          intro h
          rw [List.all_cons, Bool.and_eq_true] at h
          rw [List.takeWhile_cons, if_pos h.1, ih h.2]
      exact this t ha
    have h2 : t.dropWhile noS = [] := by
      have h3 := congrArg List.length hw
      rw [h1, List.length_append] at h3
      exact List.eq_nil_of_length_eq_zero (by omega)
    rw [h1, h2]
    rfl
  · rw [if_neg ha, if_pos (by omega)]
    have hb : t.all noS = false := by simpa using ha
    have e1 : ∀ a b : List UInt8, (a ++ b).take a.length = a := fun a b => by simp
    have e2 : ∀ a b : List UInt8, (a ++ b).drop a.length = b := fun a b => by simp
    have h1 := e1 (t.takeWhile noS) (t.dropWhile noS)
    have h2 := e2 (t.takeWhile noS) (t.dropWhile noS)
    rw [hw] at h1 h2
    rw [hb]
    simp only [Int.toNat_natCast, List.length_cons, List.length_nil]
    rw [h1, ← List.drop_drop, h2]
    rfl
theorem below_drewN5 (w : World) : ∀ n, Below w.heap.size w (w.drewN n)
  | 0 => Below.refl _ _
  | n + 1 => (below_drewN5 w n).drew
/-- the library's own number holds some number -/
def MaxL (w : World) : Prop := ∃ m, w.cell? ⟨5, 0, none⟩ = some (.int .i64 m)
theorem MaxL.below {w w' : World} (h : MaxL w) (hb : Below w.heap.size w w') : MaxL w' := by
  obtain ⟨m, hm⟩ := h
  exact ⟨m, (hb.cell (World.block_lt_of_cell? _ _ hm)).trans hm⟩
theorem cut_semi (t : List UInt8) (w : World) (hl : t.length ≤ 1000000) (hm : MaxL w) :
    Calls Tryz.prog 151 #[.string (bs t), .string ⟨#[59]⟩] w fun e w' => e = .returned (.tuple #[.string (bs (t.takeWhile noS)), .string (bs ((t.dropWhile noS).drop 1)), .bool (!t.all noS)]) ∧ Below w.heap.size w w' := by
  obtain ⟨m, hm⟩ := hm
  have hs := bs_size t
  refine (Any.strings_Cut layCut (bs t) ⟨#[59]⟩ m w (by omega) hm).mono fun e w' h => ?_
  obtain ⟨he, n, rfl⟩ := h
  refine ⟨?_, below_drewN5 w n⟩
  rw [he]
  show Ending.returned (.tuple #[.string ⟨(cut t [59]).1.toArray⟩, .string ⟨(cut t [59]).2.1.toArray⟩, .bool (cut t [59]).2.2]) = _
  rw [cut_semi_eq]
  rfl

/-- the two errors of package strconv hold what an error's variable may -/
def ErrV (w : World) (g : Nat) : Prop := ∃ v, w.cell? ⟨g, 0, none⟩ = some v ∧ (v = .nilIface ∨ ∃ te pe, v = .iface te pe)
theorem ErrV.below {w w' : World} {g : Nat} (h : ErrV w g) (hb : Below w.heap.size w w') : ErrV w' g := by
  obtain ⟨v, hv, hs⟩ := h
  exact ⟨v, (hb.cell (World.block_lt_of_cell? _ _ hv)).trans hv, hs⟩
/-- all that the walks ask of the world's variables -/
def Gl (w : World) : Prop := Tabs w ∧ MaxL w ∧ ErrV w 6 ∧ ErrV w 7
theorem Gl.below {w w' : World} (h : Gl w) (hb : Below w.heap.size w w') : Gl w' := ⟨h.1.below hb, h.2.1.below hb, h.2.2.1.below hb, h.2.2.2.below hb⟩
/-- an error is made -/
theorem toErr_any (fn : ByteArray) (s : List UInt8) (base bits k : Int) (w : World) (hk : k = 1 ∨ k = 2) (hl : s.length ≤ 1000000) (hG : Gl w) :
    Calls Tryz.prog 184 #[.string fn, .string (bs s), .int .i64 base, .int .i64 bits, .iface 211 (.int .i64 k)] w fun e w' => (∃ T v, e = .returned (.iface T v)) ∧ Below w.heap.size w w' := by
  have hs := bs_size s
  obtain ⟨_, _, ⟨v0, hv0, he0⟩, v1, hv1, he1⟩ := hG
  rcases hk with rfl | rfl
  · refine (AnyPu.strconv_toError_range layToErr fn (bs s) base bits v1 w (by omega) hv1 he1).mono ?_
    rintro e w' ⟨N, rfl, _, _, hb⟩
    exact ⟨⟨_, _, rfl⟩, hb⟩
  · refine (AnyPu.strconv_toError_syntax layToErr fn (bs s) base bits v0 w (by omega) hv0 he0).mono ?_
    rintro e w' ⟨N, rfl, _, _, hb⟩
    exact ⟨⟨_, _, rfl⟩, hb⟩
end Go.Proofs.YtognlnjamlhmhaaGreatDoor.Char
