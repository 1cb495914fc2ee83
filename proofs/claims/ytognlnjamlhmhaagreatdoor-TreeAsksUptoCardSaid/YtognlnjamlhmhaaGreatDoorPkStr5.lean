/- Shelf5 Str5 -/
import Derived.Shelf.Strings.BuilderRune
import Derived.Shelf.Strings.Prefix
import Derived.Shelf.Strings.Cut
import Derived.Shelf.Small.Wraps
import Derived.Test.YtognlnjamlhmhaaGreatDoorProg
import Derived.Test.YtognlnjamlhmhaaGreatDoorPkShelf
import Derived.Test.YtognlnjamlhmhaaGreatDoorPkBs
import Derived.Test.YtognlnjamlhmhaaGreatDoorPkMat
import Derived.Test.YtognlnjamlhmhaaGreatDoorPkIs
/- The library's structures at this program's numbers: WriteByte, WriteRune, TrimPrefix, Cut, CutPrefix. -/
namespace Go.Proofs.YtognlnjamlhmhaaGreatDoor.Char
open Go.Shelf Go.RowKit

def layByteRen : Go.Shelf.Ren := ⟨fun | 167 => 176 | 240 => 149 | 276 => 166 | n => n, fun | 0 => 0 | 4 => 4 | 5 => 5 | 9 => 9 | 20 => 20 | 37 => 105 | 70 => 138 | 72 => 140 | 75 => 143 | 80 => 146 | 164 => 189 | n => n, fun n => n⟩
theorem layByte : Lays.n167 Tryz.prog layByteRen := {
  mixed := by kernel_rfl
  f167 := Tryz.func176.trans (congrArg some (by kernel_rfl))
  f240 := Tryz.func149.trans (congrArg some (by kernel_rfl))
  f276 := Tryz.func166.trans (congrArg some (by kernel_rfl))
  t0 := Tryz.underlying0
  a0 := Tryz.isAgg0
  z0 := Tryz.sizeOf0
  v0 := Tryz.zeroValue0
  t4 := Tryz.underlying4
  a4 := Tryz.isAgg4
  z4 := Tryz.sizeOf4
  v4 := Tryz.zeroValue4
  t5 := Tryz.underlying5
  a5 := Tryz.isAgg5
  z5 := Tryz.sizeOf5
  v5 := Tryz.zeroValue5
  t9 := Tryz.underlying9
  a9 := Tryz.isAgg9
  z9 := Tryz.sizeOf9
  v9 := Tryz.zeroValue9
  t20 := Tryz.underlying20
  a20 := Tryz.isAgg20
  z20 := Tryz.sizeOf20
  v20 := Tryz.zeroValue20
  t37 := Tryz.underlying105
  a37 := Tryz.isAgg105
  z37 := Tryz.sizeOf105
  v37 := Tryz.zeroValue105
  t70 := Tryz.underlying138
  a70 := Tryz.isAgg138
  z70 := Tryz.sizeOf138
  v70 := Tryz.zeroValue138
  t72 := Tryz.underlying140
  a72 := Tryz.isAgg140
  z72 := Tryz.sizeOf140
  v72 := Tryz.zeroValue140
  t75 := Tryz.underlying143
  a75 := Tryz.isAgg143
  z75 := Tryz.sizeOf143
  v75 := Tryz.zeroValue143
  t164 := Tryz.underlying189
  a164 := Tryz.isAgg189
  z164 := Tryz.sizeOf189
  v164 := Tryz.zeroValue189 }
theorem layByteX : Builder.Extra Tryz.prog layByteRen := {
  sizeBuilder := by kernel_rfl
  liesBuilder := by kernel_rfl
  t5 := Tryz.underlying5
  a5 := Tryz.isAgg5
  z5 := Tryz.sizeOf5
  v5 := Tryz.zeroValue5
  infoByte := by kernel_rfl
  cellsByte := by kernel_rfl
  sizeByte := by kernel_rfl
  neB5 := by decide }
def layRuneRen : Go.Shelf.Ren := ⟨fun | 168 => 175 | 240 => 149 | 242 => 179 | 276 => 166 | 278 => 182 | n => n, fun | 0 => 0 | 3 => 3 | 4 => 4 | 5 => 5 | 9 => 9 | 20 => 20 | 21 => 21 | 37 => 105 | 46 => 111 | 51 => 164 | 70 => 138 | 72 => 140 | 75 => 143 | 80 => 146 | 164 => 189 | n => n, fun n => n⟩
theorem layRune : Lays.n168 Tryz.prog layRuneRen := {
  mixed := by kernel_rfl
  f168 := Tryz.func175.trans (congrArg some (by kernel_rfl))
  f240 := Tryz.func149.trans (congrArg some (by kernel_rfl))
  f242 := Tryz.func179.trans (congrArg some (by kernel_rfl))
  f276 := Tryz.func166.trans (congrArg some (by kernel_rfl))
  f278 := Tryz.func182.trans (congrArg some (by kernel_rfl))
  t0 := Tryz.underlying0
  a0 := Tryz.isAgg0
  z0 := Tryz.sizeOf0
  v0 := Tryz.zeroValue0
  t3 := Tryz.underlying3
  a3 := Tryz.isAgg3
  z3 := Tryz.sizeOf3
  v3 := Tryz.zeroValue3
  t4 := Tryz.underlying4
  a4 := Tryz.isAgg4
  z4 := Tryz.sizeOf4
  v4 := Tryz.zeroValue4
  t5 := Tryz.underlying5
  a5 := Tryz.isAgg5
  z5 := Tryz.sizeOf5
  v5 := Tryz.zeroValue5
  t9 := Tryz.underlying9
  a9 := Tryz.isAgg9
  z9 := Tryz.sizeOf9
  v9 := Tryz.zeroValue9
  t20 := Tryz.underlying20
  a20 := Tryz.isAgg20
  z20 := Tryz.sizeOf20
  v20 := Tryz.zeroValue20
  t21 := Tryz.underlying21
  a21 := Tryz.isAgg21
  z21 := Tryz.sizeOf21
  v21 := Tryz.zeroValue21
  t37 := Tryz.underlying105
  a37 := Tryz.isAgg105
  z37 := Tryz.sizeOf105
  v37 := Tryz.zeroValue105
  t46 := Tryz.underlying111
  a46 := Tryz.isAgg111
  z46 := Tryz.sizeOf111
  v46 := Tryz.zeroValue111
  t51 := Tryz.underlying164
  a51 := Tryz.isAgg164
  z51 := Tryz.sizeOf164
  v51 := Tryz.zeroValue164
  t70 := Tryz.underlying138
  a70 := Tryz.isAgg138
  z70 := Tryz.sizeOf138
  v70 := Tryz.zeroValue138
  t72 := Tryz.underlying140
  a72 := Tryz.isAgg140
  z72 := Tryz.sizeOf140
  v72 := Tryz.zeroValue140
  t75 := Tryz.underlying143
  a75 := Tryz.isAgg143
  z75 := Tryz.sizeOf143
  v75 := Tryz.zeroValue143
  t164 := Tryz.underlying189
  a164 := Tryz.isAgg189
  z164 := Tryz.sizeOf189
  v164 := Tryz.zeroValue189 }
theorem layRuneX : Builder.Extra Tryz.prog layRuneRen := {
  sizeBuilder := by kernel_rfl
  liesBuilder := by kernel_rfl
  t5 := Tryz.underlying5
  a5 := Tryz.isAgg5
  z5 := Tryz.sizeOf5
  v5 := Tryz.zeroValue5
  infoByte := by kernel_rfl
  cellsByte := by kernel_rfl
  sizeByte := by kernel_rfl
  neB5 := by decide }
def layTrimPRen : Go.Shelf.Ren := ⟨fun | 101 => 177 | 206 => 169 | 208 => 180 | n => n, fun | 3 => 3 | 4 => 4 | 9 => 9 | n => n, fun n => n⟩
theorem layTrimP : Lays.n101 Tryz.prog layTrimPRen := {
  mixed := by kernel_rfl
  f101 := Tryz.func177.trans (congrArg some (by kernel_rfl))
  f206 := Tryz.func169.trans (congrArg some (by kernel_rfl))
  f208 := Tryz.func180.trans (congrArg some (by kernel_rfl))
  t3 := Tryz.underlying3
  a3 := Tryz.isAgg3
  z3 := Tryz.sizeOf3
  v3 := Tryz.zeroValue3
  t4 := Tryz.underlying4
  a4 := Tryz.isAgg4
  z4 := Tryz.sizeOf4
  v4 := Tryz.zeroValue4
  t9 := Tryz.underlying9
  a9 := Tryz.isAgg9
  z9 := Tryz.sizeOf9
  v9 := Tryz.zeroValue9 }
def layCutRen : Go.Shelf.Ren := ⟨fun | 145 => 151 | 217 => 143 | 219 => 108 | 220 => 168 | 224 => 145 | 225 => 144 | 266 => 164 | 267 => 146 | 314 => 165 | n => n, fun | 3 => 3 | 4 => 4 | 5 => 5 | 9 => 9 | 46 => 111 | 51 => 164 | 59 => 177 | 146 => 187 | n => n, fun | 1 => 5 | n => n⟩
theorem layCut : Lays.n145 Tryz.prog layCutRen := {
  mixed := by kernel_rfl
  f145 := Tryz.func151.trans (congrArg some (by kernel_rfl))
  f217 := Tryz.func143.trans (congrArg some (by kernel_rfl))
  f219 := Tryz.func108.trans (congrArg some (by kernel_rfl))
  f220 := Tryz.func168.trans (congrArg some (by kernel_rfl))
  f224 := Tryz.func145.trans (congrArg some (by kernel_rfl))
  f225 := Tryz.func144.trans (congrArg some (by kernel_rfl))
  f266 := Tryz.func164.trans (congrArg some (by kernel_rfl))
  f267 := Tryz.func146.trans (congrArg some (by kernel_rfl))
  f314 := Tryz.func165.trans (congrArg some (by kernel_rfl))
  t3 := Tryz.underlying3
  a3 := Tryz.isAgg3
  z3 := Tryz.sizeOf3
  v3 := Tryz.zeroValue3
  t4 := Tryz.underlying4
  a4 := Tryz.isAgg4
  z4 := Tryz.sizeOf4
  v4 := Tryz.zeroValue4
  t5 := Tryz.underlying5
  a5 := Tryz.isAgg5
  z5 := Tryz.sizeOf5
  v5 := Tryz.zeroValue5
  t9 := Tryz.underlying9
  a9 := Tryz.isAgg9
  z9 := Tryz.sizeOf9
  v9 := Tryz.zeroValue9
  t46 := Tryz.underlying111
  a46 := Tryz.isAgg111
  z46 := Tryz.sizeOf111
  v46 := Tryz.zeroValue111
  t51 := Tryz.underlying164
  a51 := Tryz.isAgg164
  z51 := Tryz.sizeOf164
  v51 := Tryz.zeroValue164
  t59 := Tryz.underlying177
  a59 := Tryz.isAgg177
  z59 := Tryz.sizeOf177
  v59 := Tryz.zeroValue177
  t146 := Tryz.underlying187
  a146 := Tryz.isAgg187
  z146 := Tryz.sizeOf187
  v146 := Tryz.zeroValue187
  g1 := by kernel_rfl }
def layCutPRen : Go.Shelf.Ren := ⟨fun | 103 => 126 | 206 => 169 | 210 => 157 | n => n, fun | 3 => 3 | 4 => 4 | 9 => 9 | 24 => 150 | n => n, fun n => n⟩
theorem layCutP : Lays.n103 Tryz.prog layCutPRen := {
  mixed := by kernel_rfl
  f103 := Tryz.func126.trans (congrArg some (by kernel_rfl))
  f206 := Tryz.func169.trans (congrArg some (by kernel_rfl))
  f210 := Tryz.func157.trans (congrArg some (by kernel_rfl))
  t3 := Tryz.underlying3
  a3 := Tryz.isAgg3
  z3 := Tryz.sizeOf3
  v3 := Tryz.zeroValue3
  t4 := Tryz.underlying4
  a4 := Tryz.isAgg4
  z4 := Tryz.sizeOf4
  v4 := Tryz.zeroValue4
  t9 := Tryz.underlying9
  a9 := Tryz.isAgg9
  z9 := Tryz.sizeOf9
  v9 := Tryz.zeroValue9
  t24 := Tryz.underlying150
  a24 := Tryz.isAgg150
  z24 := Tryz.sizeOf150
  v24 := Tryz.zeroValue150 }
--TAIL
end Go.Proofs.YtognlnjamlhmhaaGreatDoor.Char

/- The library's contracts on WriteByte, WriteRune, TrimPrefix, Cut, CutPrefix, toError in plain words; what the world holds for them. -/
namespace Go.Proofs.YtognlnjamlhmhaaGreatDoor.Char
open Go.RowKit Go.Shelf Go.Lib

/-- a builder that holds these bytes -/
def Bld (B b : Nat) (l : List UInt8) (w : World) : Prop := Lib.IsBuilderF 140 5 B b (Lib.byteCells l) w
/-- what a call of a builder's leaves -/
def BldPost (B b : Nat) (l : List UInt8) (w w' : World) : Prop := Bld B b l w' ∧ Below B w w'
theorem byte_any (B b : Nat) (l : List UInt8) (c : UInt8) (w : World) (h : Bld B b l w) (hlen : l.length ≤ 1000000) (hBw : B ≤ w.heap.size) :
    Calls Tryz.prog 176 #[.pointer (some ⟨b, 0, none⟩), .int .u8 (c.toNat : Int)] w fun e w' => e = .returned .nilIface ∧ BldPost B b (l ++ [c]) w w' := by
  refine (Any.Builder_WriteByte_k layByte layByteX B b _ (c.toNat : Int) w h (by rw [Lib.byteCells_length]; omega) hBw).mono ?_
  rintro e w' ⟨he, h1, h2, h3⟩
  refine ⟨he, ?_, h2⟩
  unfold Bld
  rw [Lib.byteCells_append]
  exact Or.inr h1
theorem str_any (B b : Nat) (l s : List UInt8) (w : World) (h : Bld B b l w) (hlen : l.length + s.length ≤ 1000000) (hBw : B ≤ w.heap.size) :
    Calls Tryz.prog 117 #[.pointer (some ⟨b, 0, none⟩), .string (bs s)] w fun e w' => e = .returned (.tuple #[.int .i64 (s.length : Int), .nilIface]) ∧ BldPost B b (l ++ s) w w' := by
  have hs := bs_size s
  refine (write_any B b l (bs s) w h (by omega) hBw).mono ?_
  rintro e w' ⟨he, h1, h2, h3⟩
  exact ⟨by rw [he, hs], h1, h2⟩
theorem rune_any (B b : Nat) (l : List UInt8) (r : Int) (hr : isC r = true) (w : World) (h : Bld B b l w) (hlen : l.length ≤ 1000000) (hBw : B ≤ w.heap.size) :
    Calls Tryz.prog 175 #[.pointer (some ⟨b, 0, none⟩), .int .i32 r] w fun e w' => (∃ n : Int, e = .returned (.tuple #[.int .i64 n, .nilIface])) ∧ BldPost B b (l ++ encodeRune r) w w' := by
  have hc := isC_le hr
  refine (Any.Builder_WriteRune_k layRune layRuneX B b _ r (by omega) (by omega) w h (by rw [Lib.byteCells_length]; omega) hBw).mono ?_
  rintro e w' ⟨he, h1, h2, h3⟩
  refine ⟨⟨_, he⟩, ?_, h2⟩
  unfold Bld
  rw [Lib.byteCells_append, byteCells_encodeRune]
  exact Or.inr h1
theorem out_any (B b : Nat) (l : List UInt8) (w : World) (h : Bld B b l w) (hBw : B ≤ w.heap.size) :
    Calls Tryz.prog 118 #[.pointer (some ⟨b, 0, none⟩)] w fun e w' => e = .returned (.string (bs l)) ∧ Below B w w' :=
  (string_any B b l w h hBw).mono fun _ _ h => ⟨h.1, h.2.2.1⟩

theorem trim_nl (t : List UInt8) (w : World) : Calls Tryz.prog 177 #[.string (bs t), .string ⟨#[10]⟩] w fun e w' => e = .returned (.string (bs (nlL t))) ∧ w' = w :=
  Any.strings_TrimPrefix layTrimP (bs t) ⟨#[10]⟩ w
theorem cutp_any (l p : List UInt8) (w : World) : Calls Tryz.prog 126 #[.string (bs l), .string (bs p)] w fun e w' => e = .returned (.tuple #[.string (bs (if p.isPrefixOf l then l.drop p.length else l)), .bool (p.isPrefixOf l)]) ∧ w' = w :=
  Any.strings_CutPrefix layCutP (bs l) (bs p) w

theorem index_semi : ∀ t : List UInt8, index t [59] = if t.all noS then -1 else ((t.takeWhile noS).length : Int)
  | [] => rfl
  | b :: t => by
    have ih := index_semi t
    unfold index
    by_cases hb : b = 59
    · subst hb
      simp [noS]
    · have h1 : noS b = true := by unfold noS; simp [hb]
      have h2 : ([59] : List UInt8).isPrefixOf (b :: t) = false := by
        simp [List.isPrefixOf]
        exact fun h => hb h.symm
      rw [h2, ih]
      simp only [List.all_cons, h1, Bool.true_and, List.takeWhile_cons, if_true, List.length_cons, Bool.false_eq_true, if_false]
      by_cases ha : t.all noS = true
      · simp [ha]
      · simp only [ha, Bool.false_eq_true, if_false]
        rw [if_neg]
        · omega
        · simp only [beq_iff_eq]; omega
theorem cut_semi_eq (t : List UInt8) : cut t [59] = (t.takeWhile noS, (t.dropWhile noS).drop 1, !t.all noS) := by
  unfold cut
  rw [index_semi]
  have hw := List.takeWhile_append_dropWhile (p := noS) (l := t)
  by_cases ha : t.all noS = true
  · rw [if_pos ha, if_neg (by omega), ha]
    have h1 : t.takeWhile noS = t := by
      have : ∀ t : List UInt8, t.all noS = true → t.takeWhile noS = t := by
        intro t
        induction t with
        | nil => intro _; rfl
        | cons b t ih =>
          intro h
          rw [List.all_cons, Bool.and_eq_true] at h
          rw [List.takeWhile_cons, if_pos h.1, ih h.2]
      exact this t ha
    have h2 : t.dropWhile noS = [] := by
      have h3 := congrArg List.length hw
      rw [h1, List.length_append] at h3
      exact List.eq_nil_of_length_eq_zero (by omega)
    rw [h1, h2]
    rfl
  · rw [if_neg ha, if_pos (by omega)]
    have hb : t.all noS = false := by simpa using ha
    have e1 : ∀ a b : List UInt8, (a ++ b).take a.length = a := fun a b => by simp
    have e2 : ∀ a b : List UInt8, (a ++ b).drop a.length = b := fun a b => by simp
    have h1 := e1 (t.takeWhile noS) (t.dropWhile noS)
    have h2 := e2 (t.takeWhile noS) (t.dropWhile noS)
    rw [hw] at h1 h2
    rw [hb]
    simp only [Int.toNat_natCast, List.length_cons, List.length_nil]
    rw [h1, ← List.drop_drop, h2]
    rfl
theorem below_drewN5 (w : World) : ∀ n, Below w.heap.size w (w.drewN n)
  | 0 => Below.refl _ _
  | n + 1 => (below_drewN5 w n).drew
/-- the library's own number holds some number -/
def MaxL (w : World) : Prop := ∃ m, w.cell? ⟨5, 0, none⟩ = some (.int .i64 m)
theorem MaxL.below {w w' : World} (h : MaxL w) (hb : Below w.heap.size w w') : MaxL w' := by
  obtain ⟨m, hm⟩ := h
  exact ⟨m, (hb.cell (World.block_lt_of_cell? _ _ hm)).trans hm⟩
theorem cut_semi (t : List UInt8) (w : World) (hl : t.length ≤ 1000000) (hm : MaxL w) :
    Calls Tryz.prog 151 #[.string (bs t), .string ⟨#[59]⟩] w fun e w' => e = .returned (.tuple #[.string (bs (t.takeWhile noS)), .string (bs ((t.dropWhile noS).drop 1)), .bool (!t.all noS)]) ∧ Below w.heap.size w w' := by
  obtain ⟨m, hm⟩ := hm
  have hs := bs_size t
  refine (Any.strings_Cut layCut (bs t) ⟨#[59]⟩ m w (by omega) hm).mono fun e w' h => ?_
  obtain ⟨he, n, rfl⟩ := h
  refine ⟨?_, below_drewN5 w n⟩
  rw [he]
  show Ending.returned (.tuple #[.string ⟨(cut t [59]).1.toArray⟩, .string ⟨(cut t [59]).2.1.toArray⟩, .bool (cut t [59]).2.2]) = _
  rw [cut_semi_eq]
  rfl

/-- the two errors of package strconv hold what an error's variable may -/
def ErrV (w : World) (g : Nat) : Prop := ∃ v, w.cell? ⟨g, 0, none⟩ = some v ∧ (v = .nilIface ∨ ∃ te pe, v = .iface te pe)
theorem ErrV.below {w w' : World} {g : Nat} (h : ErrV w g) (hb : Below w.heap.size w w') : ErrV w' g := by
  obtain ⟨v, hv, hs⟩ := h
  exact ⟨v, (hb.cell (World.block_lt_of_cell? _ _ hv)).trans hv, hs⟩
/-- all that the walks ask of the world's variables -/
def Gl (w : World) : Prop := Tabs w ∧ MaxL w ∧ ErrV w 6 ∧ ErrV w 7
theorem Gl.below {w w' : World} (h : Gl w) (hb : Below w.heap.size w w') : Gl w' := ⟨h.1.below hb, h.2.1.below hb, h.2.2.1.below hb, h.2.2.2.below hb⟩
/-- an error is made -/
theorem toErr_any (fn : ByteArray) (s : List UInt8) (base bits k : Int) (w : World) (hk : k = 1 ∨ k = 2) (hl : s.length ≤ 1000000) (hG : Gl w) :
    Calls Tryz.prog 184 #[.string fn, .string (bs s), .int .i64 base, .int .i64 bits, .iface 211 (.int .i64 k)] w fun e w' => (∃ T v, e = .returned (.iface T v)) ∧ Below w.heap.size w w' := by
  have hs := bs_size s
  obtain ⟨_, _, ⟨v0, hv0, he0⟩, v1, hv1, he1⟩ := hG
  rcases hk with rfl | rfl
  · refine (AnyPu.strconv_toError_range layToErr fn (bs s) base bits v1 w (by omega) hv1 he1).mono ?_
    rintro e w' ⟨N, rfl, _, _, hb⟩
    exact ⟨⟨_, _, rfl⟩, hb⟩
  · refine (AnyPu.strconv_toError_syntax layToErr fn (bs s) base bits v0 w (by omega) hv0 he0).mono ?_
    rintro e w' ⟨N, rfl, _, _, hb⟩
    exact ⟨⟨_, _, rfl⟩, hb⟩
end Go.Proofs.YtognlnjamlhmhaaGreatDoor.Char
