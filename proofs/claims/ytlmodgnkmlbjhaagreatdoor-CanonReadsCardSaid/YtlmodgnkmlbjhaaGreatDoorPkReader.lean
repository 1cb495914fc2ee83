import Derived.Test.YtlmodgnkmlbjhaaGreatDoorPkShelf
import Derived.Test.YtlmodgnkmlbjhaaGreatDoorPkBs
import Derived.Test.YtlmodgnkmlbjhaaGreatDoorPkMat
import Derived.Test.YtlmodgnkmlbjhaaGreatDoorPkIs
import Derived.Test.YtlmodgnkmlbjhaaGreatDoorPkPu
namespace Go.Proofs.YtlmodgnkmlbjhaaGreatDoor
namespace Char
open Go.RowKit Go.Shelf Go.Lib
def Bld (B b : Nat) (l : List UInt8) (w : World) : Prop := Lib.IsBuilderF 44 5 B b (Lib.byteCells l) w
def BldPost (B b : Nat) (l : List UInt8) (w w' : World) : Prop := Bld B b l w' ∧ Below B w w'
theorem byte_any (B b : Nat) (l : List UInt8) (c : UInt8) (w : World) (h : Bld B b l w) (hlen : l.length ≤ 1000000) (hBw : B ≤ w.heap.size) :
  Calls Tryz.prog 134 #[.pointer (some ⟨b, 0, none⟩), .int .u8 (c.toNat : Int)] w fun e w' => e = .returned .nilIface ∧ BldPost B b (l ++ [c]) w w' := by
 refine (Any.Builder_WriteByte_k layByte layByteX B b _ (c.toNat : Int) w h (by rw [Lib.byteCells_length]; omega) hBw).mono ?_
 rintro e w' ⟨he, h1, h2, h3⟩
 refine ⟨he, ?_, h2⟩
 unfold Bld
 rw [Lib.byteCells_append]
 exact Or.inr h1
theorem str_any (B b : Nat) (l s : List UInt8) (w : World) (h : Bld B b l w) (hlen : l.length + s.length ≤ 1000000) (hBw : B ≤ w.heap.size) :
  Calls Tryz.prog 107 #[.pointer (some ⟨b, 0, none⟩), .string (bs s)] w fun e w' => e = .returned (.tuple #[.int .i64 (s.length : Int), .nilIface]) ∧ BldPost B b (l ++ s) w w' := by
 have hs := bs_size s
 refine (write_any B b l (bs s) w h (by omega) hBw).mono ?_
 rintro e w' ⟨he, h1, h2, h3⟩
 exact ⟨by rw [he, hs], h1, h2⟩
theorem rune_any (B b : Nat) (l : List UInt8) (r : Int) (hr : isC r = true) (w : World) (h : Bld B b l w) (hlen : l.length ≤ 1000000) (hBw : B ≤ w.heap.size) :
  Calls Tryz.prog 188 #[.pointer (some ⟨b, 0, none⟩), .int .i32 r] w fun e w' => (∃ n : Int, e = .returned (.tuple #[.int .i64 n, .nilIface])) ∧ BldPost B b (l ++ encodeRune r) w w' := by
 have hc := isC_le hr
 refine (Any.Builder_WriteRune_k layRune layRuneX B b _ r (by omega) (by omega) w h (by rw [Lib.byteCells_length]; omega) hBw).mono ?_
 rintro e w' ⟨he, h1, h2, h3⟩
 refine ⟨⟨_, he⟩, ?_, h2⟩
 unfold Bld
 rw [Lib.byteCells_append, byteCells_encodeRune]
 exact Or.inr h1
theorem out_any (B b : Nat) (l : List UInt8) (w : World) (h : Bld B b l w) (hBw : B ≤ w.heap.size) :
  Calls Tryz.prog 19 #[.pointer (some ⟨b, 0, none⟩)] w fun e w' => e = .returned (.string (bs l)) ∧ Below B w w' :=
 (string_any B b l w h hBw).mono fun _ _ h => ⟨h.1, h.2.2.1⟩
theorem trim_nl (t : List UInt8) (w : World) : Calls Tryz.prog 189 #[.string (bs t), .string ⟨#[10]⟩] w fun e w' => e = .returned (.string (bs (nlL t))) ∧ w' = w :=
 Any.strings_TrimPrefix layTrimP (bs t) ⟨#[10]⟩ w
theorem cutp_any (l p : List UInt8) (w : World) : Calls Tryz.prog 144 #[.string (bs l), .string (bs p)] w fun e w' => e = .returned (.tuple #[.string (bs (if p.isPrefixOf l then l.drop p.length else l)), .bool (p.isPrefixOf l)]) ∧ w' = w :=
 Any.strings_CutPrefix layCutP (bs l) (bs p) w
theorem index_semi : ∀ t : List UInt8, index t [59] = if t.all noS then -1 else ((t.takeWhile noS).length : Int)
 | [] => rfl
 | b :: t => by
  have ih := index_semi t
  unfold index
  by_cases hb : b = 59
  ·subst hb
   simp [noS]
  ·have h1 : noS b = true := by unfold noS; simp [hb]
   have h2 : ([59] : List UInt8).isPrefixOf (b :: t) = false := by
    simp [List.isPrefixOf]
    exact fun h => hb h.symm
   rw [h2, ih]
   simp only [List.all_cons, h1, Bool.true_and, List.takeWhile_cons, if_true, List.length_cons, Bool.false_eq_true, if_false]
   by_cases ha : t.all noS = true
   ·simp [ha]
   ·simp only [ha, Bool.false_eq_true, if_false]
    rw [if_neg]
    ·omega
    ·simp only [beq_iff_eq]; omega
theorem cut_semi_eq (t : List UInt8) : cut t [59] = (t.takeWhile noS, (t.dropWhile noS).drop 1, !t.all noS) := by
 unfold cut
 rw [index_semi]
 have hw := List.takeWhile_append_dropWhile (p := noS) (l := t)
 by_cases ha : t.all noS = true
 ·rw [if_pos ha, if_neg (by omega), ha]
  have h1 : t.takeWhile noS = t := by
   have : ∀ t : List UInt8, t.all noS = true → t.takeWhile noS = t := by
    intro t
    induction t with
    | nil => intro _; rfl
    | cons b t ih =>
     intro h
     rw [List.all_cons, Bool.and_eq_true] at h
     rw [List.takeWhile_cons, if_pos h.1, ih h.2]
   exact this t ha
  have h2 : t.dropWhile noS = [] := by
   have h3 := congrArg List.length hw
   rw [h1, List.length_append] at h3
   exact List.eq_nil_of_length_eq_zero (by omega)
  rw [h1, h2]
  rfl
 ·rw [if_neg ha, if_pos (by omega)]
  have hb : t.all noS = false := by simpa using ha
  have e1 : ∀ a b : List UInt8, (a ++ b).take a.length = a := fun a b => by simp
  have e2 : ∀ a b : List UInt8, (a ++ b).drop a.length = b := fun a b => by simp
  have h1 := e1 (t.takeWhile noS) (t.dropWhile noS)
  have h2 := e2 (t.takeWhile noS) (t.dropWhile noS)
  rw [hw] at h1 h2
  rw [hb]
  simp only [Int.toNat_natCast, List.length_cons, List.length_nil]
  rw [h1, ← List.drop_drop, h2]
  rfl
theorem below_drewN5 (w : World) : ∀ n, Below w.heap.size w (w.drewN n)
 | 0 => Below.refl _ _
 | n + 1 => (below_drewN5 w n).drew
def MaxL (w : World) : Prop := ∃ m, w.cell? ⟨5, 0, none⟩ = some (.int .i64 m)
theorem MaxL.below {w w' : World} (h : MaxL w) (hb : Below w.heap.size w w') : MaxL w' := by
 obtain ⟨m, hm⟩ := h
 exact ⟨m, (hb.cell (World.block_lt_of_cell? _ _ hm)).trans hm⟩
theorem cut_semi (t : List UInt8) (w : World) (hl : t.length ≤ 1000000) (hm : MaxL w) :
  Calls Tryz.prog 167 #[.string (bs t), .string ⟨#[59]⟩] w fun e w' => e = .returned (.tuple #[.string (bs (t.takeWhile noS)), .string (bs ((t.dropWhile noS).drop 1)), .bool (!t.all noS)]) ∧ Below w.heap.size w w' := by
 obtain ⟨m, hm⟩ := hm
 have hs := bs_size t
 refine (Any.strings_Cut layCut (bs t) ⟨#[59]⟩ m w (by omega) hm).mono fun e w' h => ?_
 obtain ⟨he, n, rfl⟩ := h
 refine ⟨?_, below_drewN5 w n⟩
 rw [he]
 show Ending.returned (.tuple #[.string ⟨(cut t [59]).1.toArray⟩, .string ⟨(cut t [59]).2.1.toArray⟩, .bool (cut t [59]).2.2]) = _
 rw [cut_semi_eq]
 rfl
def ErrV (w : World) (g : Nat) : Prop := ∃ v, w.cell? ⟨g, 0, none⟩ = some v ∧ (v = .nilIface ∨ ∃ te pe, v = .iface te pe)
theorem ErrV.below {w w' : World} {g : Nat} (h : ErrV w g) (hb : Below w.heap.size w w') : ErrV w' g := by
 obtain ⟨v, hv, hs⟩ := h
 exact ⟨v, (hb.cell (World.block_lt_of_cell? _ _ hv)).trans hv, hs⟩
def Gl (w : World) : Prop := Tabs w ∧ MaxL w ∧ ErrV w 6 ∧ ErrV w 7
theorem Gl.below {w w' : World} (h : Gl w) (hb : Below w.heap.size w w') : Gl w' := ⟨h.1.below hb, h.2.1.below hb, h.2.2.1.below hb, h.2.2.2.below hb⟩
theorem toErr_any (fn : ByteArray) (s : List UInt8) (base bits k : Int) (w : World) (hk : k = 1 ∨ k = 2) (hl : s.length ≤ 1000000) (hG : Gl w) :
  Calls Tryz.prog 196 #[.string fn, .string (bs s), .int .i64 base, .int .i64 bits, .iface 224 (.int .i64 k)] w fun e w' => (∃ T v, e = .returned (.iface T v)) ∧ Below w.heap.size w w' := by
 have hs := bs_size s
 obtain ⟨_, _, ⟨v0, hv0, he0⟩, v1, hv1, he1⟩ := hG
 rcases hk with rfl | rfl
 ·refine (AnyPu.strconv_toError_range layToErr fn (bs s) base bits v1 w (by omega) hv1 he1).mono ?_
  rintro e w' ⟨N, rfl, _, _, hb⟩
  exact ⟨⟨_, _, rfl⟩, hb⟩
 ·refine (AnyPu.strconv_toError_syntax layToErr fn (bs s) base bits v0 w (by omega) hv0 he0).mono ?_
  rintro e w' ⟨N, rfl, _, _, hb⟩
  exact ⟨⟨_, _, rfl⟩, hb⟩
end Char
namespace Char
open Go.RowKit Go.Lib Go.Shelf
set_option maxRecDepth 100000 in
theorem pu_empty (base bits : Int) (w : World) :
  Calls Tryz.prog 195 #[.string ⟨#[]⟩, .int .i64 base, .int .i64 bits] w fun e w' => e = .returned (.tuple #[.int .u64 0, .iface 224 (.int .i64 2)]) ∧ w' = w := by
 go_enter Tryz.func195, Tryz.ntmps195
 go_wp2
 go_ret2
 exact ⟨rfl, rfl⟩
def InPost (base : Nat) (l : List UInt8) (w : World) (e : Ending) (w' : World) : Prop := (∃ v, e = .returned v ∧ PuR base l v) ∧ Below w.heap.size w w'
theorem pu_any (base : Nat) (hb : base = 10 ∨ base = 16) (l : List UInt8) (w : World) (hl : l.length ≤ 100000) :
  Calls Tryz.prog 195 #[.string (bs l), .int .i64 (base : Int), .int .i64 31] w (InPost base l w) := by
 by_cases hne : l = []
 ·subst hne
  refine (pu_empty (base : Int) 31 w).mono ?_
  rintro e w' ⟨rfl, rfl⟩
  exact ⟨⟨_, rfl, PuR.empty base⟩, Below.refl _ _⟩
 ·rcases hb with rfl | rfl
  ·exact pu10_any l w hne hl
  ·exact pu16_any l w hne hl
def PubPost (base : Nat) (l : List UInt8) (w : World) (e : Ending) (w' : World) : Prop :=
 ((∃ n : Nat, e = .returned (.tuple #[.int .u64 (n : Int), .nilIface]) ∧ n < 2147483648 ∧ chrN base l = if isC (n : Int) then some n else none) ∨
 (∃ (z : Int) (T : TypeId) (v : Value), e = .returned (.tuple #[.int .u64 z, .iface T v]) ∧ chrN base l = none)) ∧ Below w.heap.size w w'
set_option maxRecDepth 100000 in
set_option maxHeartbeats 2000000 in
theorem pub_any (base : Nat) (hb : base = 10 ∨ base = 16) (l : List UInt8) (w : World) (hl : l.length ≤ 100000) (hG : Gl w) :
  Calls Tryz.prog 193 #[.string (bs l), .int .i64 (base : Int), .int .i64 31] w (PubPost base l w) := by
 have HI := Lib.hid (pu_any base hb l w hl)
 have HG := Lib.hid hG
 clear hG hb
 go_enter Tryz.func193, Tryz.ntmps193
 go_wp2_with fail
 refine HI.out.mono ?_
 rintro e w1 ⟨⟨v, rfl, hr⟩, hb1⟩
 clear HI
 rcases hr with ⟨n, rfl, hn, hc⟩ | ⟨z, k, rfl, hk, hc⟩
 ·have HC := Lib.hid hc
  clear hc
  go_wp2_with fail
  go_ret2
  exact ⟨.inl ⟨n, rfl, hn, HC.out⟩, hb1⟩
 ·have HC := Lib.hid hc
  have HK := Lib.hid hk
  clear hc hk
  go_wp2_with fail
  refine (toErr_any _ l _ _ k w1 HK.out (by omega) (HG.out.below hb1)).mono ?_
  rintro e w2 ⟨⟨T, v, rfl⟩, hb2⟩
  go_wp2_with fail
  go_ret2
  exact ⟨.inr ⟨z, T, v, rfl, HC.out⟩, hb1.trans (hb2.mono hb1.size)⟩
def chrV (o : Option Nat) (e : Ending) : Prop := ∃ z : Int, e = .returned (.tuple #[.int .i32 z, .bool o.isSome]) ∧ ∀ n, o = some n → z = (n : Int)
set_option maxRecDepth 100000 in
set_option maxHeartbeats 2000000 in
theorem numbered_any (base : Nat) (hb : base = 10 ∨ base = 16) (l : List UInt8) (w : World) (hl : l.length ≤ 100000) (hG : Gl w) :
  Calls Tryz.prog 190 #[.string (bs l), .int .i64 (base : Int)] w fun e w' => chrV (chrN base l) e ∧ Below w.heap.size w w' := by
 have HI := Lib.hid (pub_any base hb l w hl hG)
 clear hG hb
 go_enter Tryz.func190, Tryz.ntmps190
 go_wp2_with fail
 refine HI.out.mono ?_
 rintro e w1 ⟨hr, hb1⟩
 clear HI
 rcases hr with ⟨n, rfl, hn, hc⟩ | ⟨z, T, v, rfl, hc⟩
 ·have hw : IntKind.i32.wrap (n : Int) = (n : Int) := by rw [IntKind.wrap_i32]; omega
  cases hi : isC (n : Int) with
  | true =>
   rw [hi, if_pos rfl] at hc
   have HC := Lib.hid hc
   have hs : Calls Tryz.prog 71 #[.int .i32 (n : Int)] w1 fun e w' => e = .returned (.bool true) ∧ Below w1.heap.size w1 w' := by rw [← hi]; exact is_any _ _
   have HS := Lib.hid hs
   clear hc hi hs
   go_wp2_with fail
   refine HS.out.mono ?_
   rintro e w2 ⟨rfl, hb2⟩
   clear HS
   go_wp2_with fail
   go_ret2
   exact ⟨⟨(n : Int), by rw [HC.out]; rfl, fun m h => by rw [HC.out] at h; cases h; rfl⟩, hb1.trans (hb2.mono hb1.size)⟩
  | false =>
   rw [hi, if_neg (by simp)] at hc
   have HC := Lib.hid hc
   have hs : Calls Tryz.prog 71 #[.int .i32 (n : Int)] w1 fun e w' => e = .returned (.bool false) ∧ Below w1.heap.size w1 w' := by rw [← hi]; exact is_any _ _
   have HS := Lib.hid hs
   clear hc hi hs
   go_wp2_with fail
   refine HS.out.mono ?_
   rintro e w2 ⟨rfl, hb2⟩
   clear HS
   go_wp2_with fail
   go_ret2
   exact ⟨⟨0, by rw [HC.out]; rfl, fun m h => by rw [HC.out] at h; cases h⟩, hb1.trans (hb2.mono hb1.size)⟩
 ·have HC := Lib.hid hc
  clear hc
  go_wp2_with fail
  go_ret2
  exact ⟨⟨0, by rw [HC.out]; rfl, fun m h => by rw [HC.out] at h; cases h⟩, hb1⟩
end Char
namespace Char
open Go.RowKit Go.Lib Go.Shelf
def RdB (R : Nat) (l : List UInt8) (w : World) : Prop := w.cell? ⟨R, 0, none⟩ = some (.string (bs l)) ∧ w.frozen? ⟨R, 0, none⟩ = false ∧ R < w.heap.size
def But (R : Nat) (w w' : World) : Prop := Below R w w' ∧ ∀ k, k < w.heap.size → k ≠ R → w'.heap[k]? = w.heap[k]?
theorem But.refl (R : Nat) (w : World) : But R w w := ⟨Below.refl _ _, fun _ _ _ => rfl⟩
theorem But.trans {R : Nat} {a b c : World} (h : But R a b) (k : But R b c) : But R a c :=
 ⟨h.1.trans k.1, fun i hi hr => (k.2 i (Nat.lt_of_lt_of_le hi h.1.size) hr).trans (h.2 i hi hr)⟩
theorem But.set (R o : Nat) (w : World) (u : Value) : But R w (w.setCell ⟨R, o, none⟩ u) := ⟨(Below.refl R w).setCell (p := ⟨R, o, none⟩) (Nat.le_refl R) u, fun k _ hr => Below.heap_setCell w _ u k hr⟩
theorem But.of {R : Nat} {w w' : World} (h : Below w.heap.size w w') (hR : R < w.heap.size) : But R w w' := ⟨h.mono (by omega), fun k hk _ => h.block k hk⟩
theorem RdB.set {R : Nat} {l : List UInt8} {w : World} (h : RdB R l w) (t : List UInt8) : RdB R t (w.setCell ⟨R, 0, none⟩ (.string (bs t))) := by
 obtain ⟨h1, h2, h3⟩ := h
 refine ⟨?_, ?_, ?_⟩
 all_goals go_simp
theorem RdB.below {R : Nat} {l : List UInt8} {w w' : World} (h : RdB R l w) (hb : Below w.heap.size w w') : RdB R l w' :=
 ⟨(hb.cell (p := ⟨R, 0, none⟩) h.2.2).trans h.1, (hb.frozen (p := ⟨R, 0, none⟩) h.2.2).trans h.2.1, Nat.lt_of_lt_of_le h.2.2 hb.size⟩
def NxPost (R : Nat) (b : UInt8) (t : List UInt8) (w : World) (e : Ending) (w' : World) : Prop := e = .returned (.tuple #[.int .u8 (b.toNat : Int), .bool true]) ∧ RdB R t w' ∧ But R w w'
set_option maxHeartbeats 2000000 in
theorem next_nil (R : Nat) (w : World) (h : RdB R [] w) :
  Calls Tryz.prog 185 #[.pointer (some ⟨R, 0, none⟩)] w fun e w' => e = .returned (.tuple #[.int .u8 0, .bool false]) ∧ w' = w := by
 obtain ⟨h1, h2, h3⟩ := h
 have i1 : (bs []).toList = [] := bs_tl []
 have i2 : (bs []).toList.isEmpty = true := by rw [i1]; rfl
 go_enter Tryz.func185, Tryz.ntmps185
 go_wp2_with fail
 go_ret2
 exact ⟨rfl, rfl⟩
theorem tail_slice (b : UInt8) (t : List UInt8) (wx : World) : (Instr.slice 9 (.string (bs (b :: t))) (some (.int .i64 1)) none none).run Tryz.prog wx = .ok (.string (bs t)) wx := by
 have hs := bs_size (b :: t)
 rw [List.length_cons] at hs
 have := run_slice_string_l (P := Tryz.prog) wx 9 (bs (b :: t)) Tryz.underlying9 .i64 1 (by omega) (by omega)
 rw [this]
 have e : (bs (b :: t)).extract (1 : Int).toNat (bs (b :: t)).size = bs t := by
  rw [bs_ext, hs]
  simp
 rw [e]
set_option maxHeartbeats 2000000 in
theorem next_b (R : Nat) (b : UInt8) (t : List UInt8) (w : World) (h : RdB R (b :: t) w) (hb : b ≠ 13) :
  Calls Tryz.prog 185 #[.pointer (some ⟨R, 0, none⟩)] w (NxPost R b t w) := by
 have hS := h.set t
 have HS := Lib.hid hS
 obtain ⟨h1, h2, h3⟩ := h
 have i1 : ¬ (bs (b :: t)).toList = [] := by rw [bs_tl]; simp
 have i2 : (bs (b :: t)).toList.isEmpty = false := by rw [bs_tl]; rfl
 have hs := bs_size (b :: t)
 rw [List.length_cons] at hs
 have hpos : 0 < (bs (b :: t)).size := by omega
 have hg : ((bs (b :: t))[0]'hpos).toNat = b.toNat := rfl
 have hsl := tail_slice b t
 have hn : ((b.toNat : Int) == 13) = false := by
  rw [beq_eq_false_iff_ne]
  intro hh
  apply hb
  apply UInt8.toNat_inj.1
  rw [show (13 : UInt8).toNat = 13 from rfl]
  omega
 clear hS hb
 generalize bs (b :: t) = S at *
 go_enter Tryz.func185, Tryz.ntmps185
 go_wp2_with fail
 go_ret2
 exact ⟨rfl, HS.out, But.set _ _ _ _⟩
set_option maxHeartbeats 2000000 in
theorem next_cr (R : Nat) (t : List UInt8) (w : World) (h : RdB R (13 :: t) w) :
  Calls Tryz.prog 185 #[.pointer (some ⟨R, 0, none⟩)] w (NxPost R 10 (nlL t) w) := by
 have hS := h.set t
 have hS2 := hS.set (nlL t)
 have HS := Lib.hid hS2
 have HB := Lib.hid ((But.set R 0 w (.string (bs t))).trans (But.set R 0 (w.setCell ⟨R, 0, none⟩ (.string (bs t))) (.string (bs (nlL t)))))
 obtain ⟨h1, h2, h3⟩ := h
 obtain ⟨k1, k2, k3⟩ := hS
 have i1 : ¬ (bs (13 :: t)).toList = [] := by rw [bs_tl]; simp
 have i2 : (bs (13 :: t)).toList.isEmpty = false := by rw [bs_tl]; rfl
 have hs := bs_size (13 :: t)
 rw [List.length_cons] at hs
 have hpos : 0 < (bs (13 :: t)).size := by omega
 have hg : ((bs (13 :: t))[0]'hpos).toNat = 13 := rfl
 have hsl := tail_slice 13 t
 clear hS2
 generalize bs (13 :: t) = S at *
 go_enter Tryz.func185, Tryz.ntmps185
 go_wp2_with fail
 refine (trim_nl t _).mono ?_
 rintro e w2 ⟨rfl, rfl⟩
 go_wp2_with fail
 go_ret2
 exact ⟨rfl, HS.out, HB.out⟩
end Char
end Go.Proofs.YtlmodgnkmlbjhaaGreatDoor
