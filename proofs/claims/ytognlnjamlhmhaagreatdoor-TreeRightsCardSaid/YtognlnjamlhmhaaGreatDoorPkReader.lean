/- Numbered Reader -/
import Derived.Test.YtognlnjamlhmhaaGreatDoorPkPu
import Derived.Test.YtognlnjamlhmhaaGreatDoorPkStr5
import Derived.Test.YtognlnjamlhmhaaGreatDoorPkIs
/- The walks of strconv.ParseUint at 31 bits, and of esc's numbered. -/
namespace Go.Proofs.YtognlnjamlhmhaaGreatDoor.Char
open Go.RowKit Go.Lib Go.Shelf

set_option maxRecDepth 100000 in
theorem pu_empty (base bits : Int) (w : World) :
    Calls Tryz.prog 183 #[.string ⟨#[]⟩, .int .i64 base, .int .i64 bits] w fun e w' => e = .returned (.tuple #[.int .u64 0, .iface 211 (.int .i64 2)]) ∧ w' = w := by
  go_enter Tryz.func183, Tryz.ntmps183
  go_wp2
  go_ret2
  exact ⟨rfl, rfl⟩
/-- what the number's digits leave -/
def InPost (base : Nat) (l : List UInt8) (w : World) (e : Ending) (w' : World) : Prop := (∃ v, e = .returned v ∧ PuR base l v) ∧ Below w.heap.size w w'
theorem pu_any (base : Nat) (hb : base = 10 ∨ base = 16) (l : List UInt8) (w : World) (hl : l.length ≤ 100000) :
    Calls Tryz.prog 183 #[.string (bs l), .int .i64 (base : Int), .int .i64 31] w (InPost base l w) := by
  by_cases hne : l = []
  · subst hne
    refine (pu_empty (base : Int) 31 w).mono ?_
    rintro e w' ⟨rfl, rfl⟩
    exact ⟨⟨_, rfl, PuR.empty base⟩, Below.refl _ _⟩
  · rcases hb with rfl | rfl
    · exact pu10_any l w hne hl
    · exact pu16_any l w hne hl
/-- what the public call leaves -/
def PubPost (base : Nat) (l : List UInt8) (w : World) (e : Ending) (w' : World) : Prop :=
  ((∃ n : Nat, e = .returned (.tuple #[.int .u64 (n : Int), .nilIface]) ∧ n < 2147483648 ∧ chrN base l = if isC (n : Int) then some n else none) ∨
  (∃ (z : Int) (T : TypeId) (v : Value), e = .returned (.tuple #[.int .u64 z, .iface T v]) ∧ chrN base l = none)) ∧ Below w.heap.size w w'

set_option maxRecDepth 100000 in
set_option maxHeartbeats 2000000 in
theorem pub_any (base : Nat) (hb : base = 10 ∨ base = 16) (l : List UInt8) (w : World) (hl : l.length ≤ 100000) (hG : Gl w) :
    Calls Tryz.prog 181 #[.string (bs l), .int .i64 (base : Int), .int .i64 31] w (PubPost base l w) := by
  have HI := Lib.hid (pu_any base hb l w hl)
  have HG := Lib.hid hG
  clear hG hb
  go_enter Tryz.func181, Tryz.ntmps181
  go_wp2_with fail
  refine HI.out.mono ?_
  rintro e w1 ⟨⟨v, rfl, hr⟩, hb1⟩
  clear HI
  rcases hr with ⟨n, rfl, hn, hc⟩ | ⟨z, k, rfl, hk, hc⟩
  · have HC := Lib.hid hc
    clear hc
    go_wp2_with fail
    go_ret2
    exact ⟨.inl ⟨n, rfl, hn, HC.out⟩, hb1⟩
  · have HC := Lib.hid hc
    have HK := Lib.hid hk
    clear hc hk
    go_wp2_with fail
    refine (toErr_any _ l _ _ k w1 HK.out (by omega) (HG.out.below hb1)).mono ?_
    rintro e w2 ⟨⟨T, v, rfl⟩, hb2⟩
    go_wp2_with fail
    go_ret2
    exact ⟨.inr ⟨z, T, v, rfl, HC.out⟩, hb1.trans (hb2.mono hb1.size)⟩

/-- the answer of a reference's reading: the character, and whether there is one -/
def chrV (o : Option Nat) (e : Ending) : Prop := ∃ z : Int, e = .returned (.tuple #[.int .i32 z, .bool o.isSome]) ∧ ∀ n, o = some n → z = (n : Int)

set_option maxRecDepth 100000 in
set_option maxHeartbeats 2000000 in
theorem numbered_any (base : Nat) (hb : base = 10 ∨ base = 16) (l : List UInt8) (w : World) (hl : l.length ≤ 100000) (hG : Gl w) :
    Calls Tryz.prog 178 #[.string (bs l), .int .i64 (base : Int)] w fun e w' => chrV (chrN base l) e ∧ Below w.heap.size w w' := by
  have HI := Lib.hid (pub_any base hb l w hl hG)
  clear hG hb
  go_enter Tryz.func178, Tryz.ntmps178
  go_wp2_with fail
  refine HI.out.mono ?_
  rintro e w1 ⟨hr, hb1⟩
  clear HI
  rcases hr with ⟨n, rfl, hn, hc⟩ | ⟨z, T, v, rfl, hc⟩
  · have hw : IntKind.i32.wrap (n : Int) = (n : Int) := by rw [IntKind.wrap_i32]; omega
    cases hi : isC (n : Int) with
    | true =>
      rw [hi, if_pos rfl] at hc
      have HC := Lib.hid hc
      have hs : Calls Tryz.prog 60 #[.int .i32 (n : Int)] w1 fun e w' => e = .returned (.bool true) ∧ Below w1.heap.size w1 w' := by rw [← hi]; exact is_any _ _
      have HS := Lib.hid hs
      clear hc hi hs
      go_wp2_with fail
      refine HS.out.mono ?_
      rintro e w2 ⟨rfl, hb2⟩
      clear HS
      go_wp2_with fail
      go_ret2
      exact ⟨⟨(n : Int), by rw [HC.out]; rfl, fun m h => by rw [HC.out] at h; cases h; rfl⟩, hb1.trans (hb2.mono hb1.size)⟩
    | false =>
      rw [hi, if_neg (by simp)] at hc
      have HC := Lib.hid hc
      have hs : Calls Tryz.prog 60 #[.int .i32 (n : Int)] w1 fun e w' => e = .returned (.bool false) ∧ Below w1.heap.size w1 w' := by rw [← hi]; exact is_any _ _
      have HS := Lib.hid hs
      clear hc hi hs
      go_wp2_with fail
      refine HS.out.mono ?_
      rintro e w2 ⟨rfl, hb2⟩
      clear HS
      go_wp2_with fail
      go_ret2
      exact ⟨⟨0, by rw [HC.out]; rfl, fun m h => by rw [HC.out] at h; cases h⟩, hb1.trans (hb2.mono hb1.size)⟩
  · have HC := Lib.hid hc
    clear hc
    go_wp2_with fail
    go_ret2
    exact ⟨⟨0, by rw [HC.out]; rfl, fun m h => by rw [HC.out] at h; cases h⟩, hb1⟩
end Go.Proofs.YtognlnjamlhmhaaGreatDoor.Char

/- The walks of esc's small reader: what takes a byte off, what takes a reference off. -/
namespace Go.Proofs.YtognlnjamlhmhaaGreatDoor.Char
open Go.RowKit Go.Lib Go.Shelf

/-- the reader's box holds what is left -/
def RdB (R : Nat) (l : List UInt8) (w : World) : Prop := w.cell? ⟨R, 0, none⟩ = some (.string (bs l)) ∧ w.frozen? ⟨R, 0, none⟩ = false ∧ R < w.heap.size
/-- nothing but one block turned -/
def But (R : Nat) (w w' : World) : Prop := Below R w w' ∧ ∀ k, k < w.heap.size → k ≠ R → w'.heap[k]? = w.heap[k]?
theorem But.refl (R : Nat) (w : World) : But R w w := ⟨Below.refl _ _, fun _ _ _ => rfl⟩
theorem But.trans {R : Nat} {a b c : World} (h : But R a b) (k : But R b c) : But R a c :=
  ⟨h.1.trans k.1, fun i hi hr => (k.2 i (Nat.lt_of_lt_of_le hi h.1.size) hr).trans (h.2 i hi hr)⟩
theorem But.set (R o : Nat) (w : World) (u : Value) : But R w (w.setCell ⟨R, o, none⟩ u) := ⟨(Below.refl R w).setCell (p := ⟨R, o, none⟩) (Nat.le_refl R) u, fun k _ hr => Below.heap_setCell w _ u k hr⟩
theorem But.of {R : Nat} {w w' : World} (h : Below w.heap.size w w') (hR : R < w.heap.size) : But R w w' := ⟨h.mono (by omega), fun k hk _ => h.block k hk⟩
theorem RdB.set {R : Nat} {l : List UInt8} {w : World} (h : RdB R l w) (t : List UInt8) : RdB R t (w.setCell ⟨R, 0, none⟩ (.string (bs t))) := by
  obtain ⟨h1, h2, h3⟩ := h
  refine ⟨?_, ?_, ?_⟩
  all_goals go_simp
theorem RdB.below {R : Nat} {l : List UInt8} {w w' : World} (h : RdB R l w) (hb : Below w.heap.size w w') : RdB R l w' :=
  ⟨(hb.cell (p := ⟨R, 0, none⟩) h.2.2).trans h.1, (hb.frozen (p := ⟨R, 0, none⟩) h.2.2).trans h.2.1, Nat.lt_of_lt_of_le h.2.2 hb.size⟩
/-- what taking a byte off leaves -/
def NxPost (R : Nat) (b : UInt8) (t : List UInt8) (w : World) (e : Ending) (w' : World) : Prop := e = .returned (.tuple #[.int .u8 (b.toNat : Int), .bool true]) ∧ RdB R t w' ∧ But R w w'

set_option maxHeartbeats 2000000 in
theorem next_nil (R : Nat) (w : World) (h : RdB R [] w) :
    Calls Tryz.prog 172 #[.pointer (some ⟨R, 0, none⟩)] w fun e w' => e = .returned (.tuple #[.int .u8 0, .bool false]) ∧ w' = w := by
  obtain ⟨h1, h2, h3⟩ := h
  have i1 : (bs []).toList = [] := bs_tl []
  have i2 : (bs []).toList.isEmpty = true := by rw [i1]; rfl
  go_enter Tryz.func172, Tryz.ntmps172
  go_wp2_with fail
  go_ret2
  exact ⟨rfl, rfl⟩

theorem tail_slice (b : UInt8) (t : List UInt8) (wx : World) : (Instr.slice 9 (.string (bs (b :: t))) (some (.int .i64 1)) none none).run Tryz.prog wx = .ok (.string (bs t)) wx := by
  have hs := bs_size (b :: t)
  rw [List.length_cons] at hs
  have := run_slice_string_l (P := Tryz.prog) wx 9 (bs (b :: t)) Tryz.underlying9 .i64 1 (by omega) (by omega)
  rw [this]
  have e : (bs (b :: t)).extract (1 : Int).toNat (bs (b :: t)).size = bs t := by
    rw [bs_ext, hs]
    simp
  rw [e]

set_option maxHeartbeats 2000000 in
theorem next_b (R : Nat) (b : UInt8) (t : List UInt8) (w : World) (h : RdB R (b :: t) w) (hb : b ≠ 13) :
    Calls Tryz.prog 172 #[.pointer (some ⟨R, 0, none⟩)] w (NxPost R b t w) := by
  have hS := h.set t
  have HS := Lib.hid hS
  obtain ⟨h1, h2, h3⟩ := h
  have i1 : ¬ (bs (b :: t)).toList = [] := by rw [bs_tl]; simp
  have i2 : (bs (b :: t)).toList.isEmpty = false := by rw [bs_tl]; rfl
  have hs := bs_size (b :: t)
  rw [List.length_cons] at hs
  have hpos : 0 < (bs (b :: t)).size := by omega
  have hg : ((bs (b :: t))[0]'hpos).toNat = b.toNat := rfl
  have hsl := tail_slice b t
  have hn : ((b.toNat : Int) == 13) = false := by
    rw [beq_eq_false_iff_ne]
    intro hh
    apply hb
    apply UInt8.toNat_inj.1
    rw [show (13 : UInt8).toNat = 13 from rfl]
    omega
  clear hS hb
  generalize bs (b :: t) = S at *
  go_enter Tryz.func172, Tryz.ntmps172
  go_wp2_with fail
  go_ret2
  exact ⟨rfl, HS.out, But.set _ _ _ _⟩

set_option maxHeartbeats 2000000 in
theorem next_cr (R : Nat) (t : List UInt8) (w : World) (h : RdB R (13 :: t) w) :
    Calls Tryz.prog 172 #[.pointer (some ⟨R, 0, none⟩)] w (NxPost R 10 (nlL t) w) := by
  have hS := h.set t
  have hS2 := hS.set (nlL t)
  have HS := Lib.hid hS2
  have HB := Lib.hid ((But.set R 0 w (.string (bs t))).trans (But.set R 0 (w.setCell ⟨R, 0, none⟩ (.string (bs t))) (.string (bs (nlL t)))))
  obtain ⟨h1, h2, h3⟩ := h
  obtain ⟨k1, k2, k3⟩ := hS
  have i1 : ¬ (bs (13 :: t)).toList = [] := by rw [bs_tl]; simp
  have i2 : (bs (13 :: t)).toList.isEmpty = false := by rw [bs_tl]; rfl
  have hs := bs_size (13 :: t)
  rw [List.length_cons] at hs
  have hpos : 0 < (bs (13 :: t)).size := by omega
  have hg : ((bs (13 :: t))[0]'hpos).toNat = 13 := rfl
  have hsl := tail_slice 13 t
  clear hS2
  generalize bs (13 :: t) = S at *
  go_enter Tryz.func172, Tryz.ntmps172
  go_wp2_with fail
  refine (trim_nl t _).mono ?_
  rintro e w2 ⟨rfl, rfl⟩
  go_wp2_with fail
  go_ret2
  exact ⟨rfl, HS.out, HB.out⟩
end Go.Proofs.YtognlnjamlhmhaaGreatDoor.Char
