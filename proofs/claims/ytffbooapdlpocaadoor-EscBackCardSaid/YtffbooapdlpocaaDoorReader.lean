/- The walks of esc's small reader: what takes a byte off, what takes a reference off. -/
import Derived.Test.YtffbooapdlpocaaDoorNumbered
namespace Go.Proofs.YtffbooapdlpocaaDoor.Char
open Go.RowKit Go.Lib Go.Shelf

/-- the reader's box holds what is left -/
def RdB (R : Nat) (l : List UInt8) (w : World) : Prop := w.cell? ⟨R, 0, none⟩ = some (.string (bs l)) ∧ w.frozen? ⟨R, 0, none⟩ = false ∧ R < w.heap.size
/-- nothing but one block turned -/
def But (R : Nat) (w w' : World) : Prop := Below R w w' ∧ ∀ k, k < w.heap.size → k ≠ R → w'.heap[k]? = w.heap[k]?
theorem But.refl (R : Nat) (w : World) : But R w w := ⟨Below.refl _ _, fun _ _ _ => rfl⟩
theorem But.trans {R : Nat} {a b c : World} (h : But R a b) (k : But R b c) : But R a c :=
  ⟨h.1.trans k.1, fun i hi hr => (k.2 i (Nat.lt_of_lt_of_le hi h.1.size) hr).trans (h.2 i hi hr)⟩
theorem But.set (R o : Nat) (w : World) (u : Value) : But R w (w.setCell ⟨R, o, none⟩ u) := ⟨(Below.refl R w).setCell (p := ⟨R, o, none⟩) (Nat.le_refl R) u, fun k _ hr => Below.heap_setCell w _ u k hr⟩
theorem But.of {R : Nat} {w w' : World} (h : Below w.heap.size w w') (hR : R < w.heap.size) : But R w w' := ⟨h.mono (by omega), fun k hk _ => h.block k hk⟩
theorem RdB.set {R : Nat} {l : List UInt8} {w : World} (h : RdB R l w) (t : List UInt8) : RdB R t (w.setCell ⟨R, 0, none⟩ (.string (bs t))) := by
  obtain ⟨h1, h2, h3⟩ := h
  refine ⟨?_, ?_, ?_⟩
  all_goals go_simp
theorem RdB.below {R : Nat} {l : List UInt8} {w w' : World} (h : RdB R l w) (hb : Below w.heap.size w w') : RdB R l w' :=
  ⟨(hb.cell (p := ⟨R, 0, none⟩) h.2.2).trans h.1, (hb.frozen (p := ⟨R, 0, none⟩) h.2.2).trans h.2.1, Nat.lt_of_lt_of_le h.2.2 hb.size⟩
/-- what taking a byte off leaves -/
def NxPost (R : Nat) (b : UInt8) (t : List UInt8) (w : World) (e : Ending) (w' : World) : Prop := e = .returned (.tuple #[.int .u8 (b.toNat : Int), .bool true]) ∧ RdB R t w' ∧ But R w w'

set_option maxHeartbeats 2000000 in
theorem next_nil (R : Nat) (w : World) (h : RdB R [] w) :
    Calls Tryd.prog 29 #[.pointer (some ⟨R, 0, none⟩)] w fun e w' => e = .returned (.tuple #[.int .u8 0, .bool false]) ∧ w' = w := by
  obtain ⟨h1, h2, h3⟩ := h
  have i1 : (bs []).toList = [] := bs_tl []
  have i2 : (bs []).toList.isEmpty = true := by rw [i1]; rfl
  go_enter Tryd.func29, Tryd.ntmps29
  go_wp2_with fail
  go_ret2
  exact ⟨rfl, rfl⟩

theorem tail_slice (b : UInt8) (t : List UInt8) (wx : World) : (Instr.slice 9 (.string (bs (b :: t))) (some (.int .i64 1)) none none).run Tryd.prog wx = .ok (.string (bs t)) wx := by
  have hs := bs_size (b :: t)
  rw [List.length_cons] at hs
  have := run_slice_string_l (P := Tryd.prog) wx 9 (bs (b :: t)) Tryd.underlying9 .i64 1 (by omega) (by omega)
  rw [this]
  have e : (bs (b :: t)).extract (1 : Int).toNat (bs (b :: t)).size = bs t := by
    rw [bs_ext, hs]
    simp
  rw [e]

set_option maxHeartbeats 2000000 in
theorem next_b (R : Nat) (b : UInt8) (t : List UInt8) (w : World) (h : RdB R (b :: t) w) (hb : b ≠ 13) :
    Calls Tryd.prog 29 #[.pointer (some ⟨R, 0, none⟩)] w (NxPost R b t w) := by
  have hS := h.set t
  have HS := Lib.hid hS
  obtain ⟨h1, h2, h3⟩ := h
  have i1 : ¬ (bs (b :: t)).toList = [] := by rw [bs_tl]; simp
  have i2 : (bs (b :: t)).toList.isEmpty = false := by rw [bs_tl]; rfl
  have hs := bs_size (b :: t)
  rw [List.length_cons] at hs
  have hpos : 0 < (bs (b :: t)).size := by omega
  have hg : ((bs (b :: t))[0]'hpos).toNat = b.toNat := rfl
  have hsl := tail_slice b t
  have hn : ((b.toNat : Int) == 13) = false := by
    rw [beq_eq_false_iff_ne]
    intro hh
    apply hb
    apply UInt8.toNat_inj.1
    rw [show (13 : UInt8).toNat = 13 from rfl]
    omega
  clear hS hb
  generalize bs (b :: t) = S at *
  go_enter Tryd.func29, Tryd.ntmps29
  go_wp2_with fail
  go_ret2
  exact ⟨rfl, HS.out, But.set _ _ _ _⟩

set_option maxHeartbeats 2000000 in
theorem next_cr (R : Nat) (t : List UInt8) (w : World) (h : RdB R (13 :: t) w) :
    Calls Tryd.prog 29 #[.pointer (some ⟨R, 0, none⟩)] w (NxPost R 10 (nlL t) w) := by
  have hS := h.set t
  have hS2 := hS.set (nlL t)
  have HS := Lib.hid hS2
  have HB := Lib.hid ((But.set R 0 w (.string (bs t))).trans (But.set R 0 (w.setCell ⟨R, 0, none⟩ (.string (bs t))) (.string (bs (nlL t)))))
  obtain ⟨h1, h2, h3⟩ := h
  obtain ⟨k1, k2, k3⟩ := hS
  have i1 : ¬ (bs (13 :: t)).toList = [] := by rw [bs_tl]; simp
  have i2 : (bs (13 :: t)).toList.isEmpty = false := by rw [bs_tl]; rfl
  have hs := bs_size (13 :: t)
  rw [List.length_cons] at hs
  have hpos : 0 < (bs (13 :: t)).size := by omega
  have hg : ((bs (13 :: t))[0]'hpos).toNat = 13 := rfl
  have hsl := tail_slice 13 t
  clear hS2
  generalize bs (13 :: t) = S at *
  go_enter Tryd.func29, Tryd.ntmps29
  go_wp2_with fail
  refine (trim_nl t _).mono ?_
  rintro e w2 ⟨rfl, rfl⟩
  go_wp2_with fail
  go_ret2
  exact ⟨rfl, HS.out, HB.out⟩
end Go.Proofs.YtffbooapdlpocaaDoor.Char
