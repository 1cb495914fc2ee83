/- The walks of strconv.ParseUint at 31 bits, and of esc's numbered. -/
import Derived.Test.YtffbooapdlpocaaDoorPu10
import Derived.Test.YtffbooapdlpocaaDoorPu16
import Derived.Test.YtffbooapdlpocaaDoorStr5
import Derived.Test.YtffbooapdlpocaaDoorIs
namespace Go.Proofs.YtffbooapdlpocaaDoor.Char
open Go.RowKit Go.Lib Go.Shelf

set_option maxRecDepth 100000 in
theorem pu_empty (base bits : Int) (w : World) :
    Calls Tryd.prog 53 #[.string ⟨#[]⟩, .int .i64 base, .int .i64 bits] w fun e w' => e = .returned (.tuple #[.int .u64 0, .iface 95 (.int .i64 2)]) ∧ w' = w := by
  go_enter Tryd.func53, Tryd.ntmps53
  go_wp2
  go_ret2
  exact ⟨rfl, rfl⟩
/-- what the number's digits leave -/
def InPost (base : Nat) (l : List UInt8) (w : World) (e : Ending) (w' : World) : Prop := (∃ v, e = .returned v ∧ PuR base l v) ∧ Below w.heap.size w w'
theorem pu_any (base : Nat) (hb : base = 10 ∨ base = 16) (l : List UInt8) (w : World) (hl : l.length ≤ 100000) :
    Calls Tryd.prog 53 #[.string (bs l), .int .i64 (base : Int), .int .i64 31] w (InPost base l w) := by
  by_cases hne : l = []
  · subst hne
    refine (pu_empty (base : Int) 31 w).mono ?_
    rintro e w' ⟨rfl, rfl⟩
    exact ⟨⟨_, rfl, PuR.empty base⟩, Below.refl _ _⟩
  · rcases hb with rfl | rfl
    · exact pu10_any l w hne hl
    · exact pu16_any l w hne hl
/-- what the public call leaves -/
def PubPost (base : Nat) (l : List UInt8) (w : World) (e : Ending) (w' : World) : Prop :=
  ((∃ n : Nat, e = .returned (.tuple #[.int .u64 (n : Int), .nilIface]) ∧ n < 2147483648 ∧ chrN base l = if isC (n : Int) then some n else none) ∨
  (∃ (z : Int) (T : TypeId) (v : Value), e = .returned (.tuple #[.int .u64 z, .iface T v]) ∧ chrN base l = none)) ∧ Below w.heap.size w w'

set_option maxRecDepth 100000 in
set_option maxHeartbeats 2000000 in
theorem pub_any (base : Nat) (hb : base = 10 ∨ base = 16) (l : List UInt8) (w : World) (hl : l.length ≤ 100000) (hG : Gl w) :
    Calls Tryd.prog 49 #[.string (bs l), .int .i64 (base : Int), .int .i64 31] w (PubPost base l w) := by
  have HI := Lib.hid (pu_any base hb l w hl)
  have HG := Lib.hid hG
  clear hG hb
  go_enter Tryd.func49, Tryd.ntmps49
  go_wp2_with fail
  refine HI.out.mono ?_
  rintro e w1 ⟨⟨v, rfl, hr⟩, hb1⟩
  clear HI
  rcases hr with ⟨n, rfl, hn, hc⟩ | ⟨z, k, rfl, hk, hc⟩
  · have HC := Lib.hid hc
    clear hc
    go_wp2_with fail
    go_ret2
    exact ⟨.inl ⟨n, rfl, hn, HC.out⟩, hb1⟩
  · have HC := Lib.hid hc
    have HK := Lib.hid hk
    clear hc hk
    go_wp2_with fail
    refine (toErr_any _ l _ _ k w1 HK.out (by omega) (HG.out.below hb1)).mono ?_
    rintro e w2 ⟨⟨T, v, rfl⟩, hb2⟩
    go_wp2_with fail
    go_ret2
    exact ⟨.inr ⟨z, T, v, rfl, HC.out⟩, hb1.trans (hb2.mono hb1.size)⟩

/-- the answer of a reference's reading: the character, and whether there is one -/
def chrV (o : Option Nat) (e : Ending) : Prop := ∃ z : Int, e = .returned (.tuple #[.int .i32 z, .bool o.isSome]) ∧ ∀ n, o = some n → z = (n : Int)

set_option maxRecDepth 100000 in
set_option maxHeartbeats 2000000 in
theorem numbered_any (base : Nat) (hb : base = 10 ∨ base = 16) (l : List UInt8) (w : World) (hl : l.length ≤ 100000) (hG : Gl w) :
    Calls Tryd.prog 41 #[.string (bs l), .int .i64 (base : Int)] w fun e w' => chrV (chrN base l) e ∧ Below w.heap.size w w' := by
  have HI := Lib.hid (pub_any base hb l w hl hG)
  clear hG hb
  go_enter Tryd.func41, Tryd.ntmps41
  go_wp2_with fail
  refine HI.out.mono ?_
  rintro e w1 ⟨hr, hb1⟩
  clear HI
  rcases hr with ⟨n, rfl, hn, hc⟩ | ⟨z, T, v, rfl, hc⟩
  · have hw : IntKind.i32.wrap (n : Int) = (n : Int) := by rw [IntKind.wrap_i32]; omega
    cases hi : isC (n : Int) with
    | true =>
      rw [hi, if_pos rfl] at hc
      have HC := Lib.hid hc
      have hs : Calls Tryd.prog 36 #[.int .i32 (n : Int)] w1 fun e w' => e = .returned (.bool true) ∧ Below w1.heap.size w1 w' := by rw [← hi]; exact is_any _ _
      have HS := Lib.hid hs
      clear hc hi hs
      go_wp2_with fail
      refine HS.out.mono ?_
      rintro e w2 ⟨rfl, hb2⟩
      clear HS
      go_wp2_with fail
      go_ret2
      exact ⟨⟨(n : Int), by rw [HC.out]; rfl, fun m h => by rw [HC.out] at h; cases h; rfl⟩, hb1.trans (hb2.mono hb1.size)⟩
    | false =>
      rw [hi, if_neg (by simp)] at hc
      have HC := Lib.hid hc
      have hs : Calls Tryd.prog 36 #[.int .i32 (n : Int)] w1 fun e w' => e = .returned (.bool false) ∧ Below w1.heap.size w1 w' := by rw [← hi]; exact is_any _ _
      have HS := Lib.hid hs
      clear hc hi hs
      go_wp2_with fail
      refine HS.out.mono ?_
      rintro e w2 ⟨rfl, hb2⟩
      clear HS
      go_wp2_with fail
      go_ret2
      exact ⟨⟨0, by rw [HC.out]; rfl, fun m h => by rw [HC.out] at h; cases h⟩, hb1.trans (hb2.mono hb1.size)⟩
  · have HC := Lib.hid hc
    clear hc
    go_wp2_with fail
    go_ret2
    exact ⟨⟨0, by rw [HC.out]; rfl, fun m h => by rw [HC.out] at h; cases h⟩, hb1⟩
end Go.Proofs.YtffbooapdlpocaaDoor.Char
