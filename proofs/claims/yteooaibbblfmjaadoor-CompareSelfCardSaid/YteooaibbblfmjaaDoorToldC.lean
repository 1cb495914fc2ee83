/- Values by themselves; the walks of package value's told and Bool (written by gen_tovc.py). -/
import Derived.Test.YteooaibbblfmjaaDoorInt16
import Derived.Test.YteooaibbblfmjaaDoorRead
import Derived.Test.YteooaibbblfmjaaDoorCmpW
namespace Go.Proofs.YteooaibbblfmjaaDoor.Char
open Go.RowKit Go.Lib

theorem below_box (w : World) (o : Obj) : Below w.heap.size w (w.alloc o) := (Below.refl _ _).alloc (Nat.le_refl _) _
/-- a box that stands -/
theorem blk_call {w w' : World} {p : Nat} {o : Obj} (h : w.heap[p]? = some o) (hb : Below w.heap.size w w') : w'.heap[p]? = some o := (hb.block _ (Array.getElem?_eq_some_iff.1 h).1).trans h
/-- a value: its type, its nodes' slice, its truth, its number, its text -/
structure Va where
  t : Int
  o : Option Addr
  n : Nat
  j : Nat
  b : Bool
  g : Int
  v : Int
  s : List UInt8
def vaC (x : Va) : List Value := [.int .i64 x.t, .slice x.o x.n x.j, .bool x.b, .int .i64 x.g, .int .i64 x.v, .string (bs x.s)]
def vaV (x : Va) : Value := .agg #[.int .i64 x.t, .slice x.o x.n x.j, .bool x.b, .int .i64 x.g, .int .i64 x.v, .string (bs x.s)]
def threeV (op : Int) (x y : Va) : Value := .agg #[.int .i64 op, .int .i64 x.t, .slice x.o x.n x.j, .bool x.b, .int .i64 x.g, .int .i64 x.v, .string (bs x.s), .int .i64 y.t, .slice y.o y.n y.j, .bool y.b, .int .i64 y.g, .int .i64 y.v, .string (bs y.s)]
/-- a value's six cells, in a box -/
def boxVa (t : Int) (o : Option Addr) (n j : Nat) (b : Bool) (g v : Int) (s : ByteArray) : Obj := .cells #[.int .i64 t, .slice o n j, .bool b, .int .i64 g, .int .i64 v, .string s] 26
theorem boxVa_blk {w : World} {p : Nat} {t : Int} {o : Option Addr} {n j : Nat} {b : Bool} {g v : Int} {s : ByteArray} (h : w.heap[p]? = some (boxVa t o n j b g v s)) :
    (w.cell? ⟨p, 0, none⟩ = some (.int .i64 t) ∧ w.cell? ⟨p, 1, none⟩ = some (.slice o n j) ∧ w.cell? ⟨p, 2, none⟩ = some (.bool b) ∧ w.cell? ⟨p, 3, none⟩ = some (.int .i64 g) ∧ w.cell? ⟨p, 4, none⟩ = some (.int .i64 v) ∧ w.cell? ⟨p, 5, none⟩ = some (.string s)) ∧ ∀ i, w.frozen? ⟨p, i, none⟩ = false := by
  unfold boxVa at h
  exact ⟨⟨by simp [World.cell?, h], by simp [World.cell?, h], by simp [World.cell?, h], by simp [World.cell?, h], by simp [World.cell?, h], by simp [World.cell?, h]⟩, fun i => by simp [World.frozen?, h]⟩
theorem end_val {fn : Func} {p : Tmp} (h : fn.results = #[.cell p 26]) {a : Act} {R : Ending → World → Prop} (w1 : World) (k : Nat) {t : Int} {o : Option Addr} {n j : Nat} {b : Bool} {g v : Int} {s : ByteArray} (hk : w1.heap[k]? = some (boxVa t o n j b g v s))
    (hp : a.tmps.getD p undef = .pointer (some ⟨k, 0, none⟩)) (hd : a.defers = []) (hR : R (.returned (.agg #[.int .i64 t, .slice o n j, .bool b, .int .i64 g, .int .i64 v, .string s])) w1) : bodyPost Tryd.prog fn R .ret a w1 := by
  have hp' : a.tmps[p]?.getD undef = .pointer (some ⟨k, 0, none⟩) := by simpa using hp
  obtain ⟨⟨a0, a1, a2, a3, a4, a5⟩, _⟩ := boxVa_blk hk
  exact bodyPost_ret (by simp [results, h, hp', go_sem, a0, a1, a2, a3, a4, a5]) hd hR
set_option maxHeartbeats 2000000 in
theorem told_num (o : Option Addr) (n j : Nat) (b : Bool) (g v : Int) (s : ByteArray) (w : World) : Calls Tryd.prog 22 #[.agg #[.int .i64 3, .slice o n j, .bool b, .int .i64 g, .int .i64 v, .string s]] w fun e w' => e = .returned (.iface 53 (.agg #[.int .i64 g, .int .i64 v])) ∧ Below w.heap.size w w' := by
  go_enter Tryd.func22, Tryd.ntmps22
  go_wp2_with fail
  go_ret
  exact ⟨rfl, below_box _ _⟩
set_option maxHeartbeats 2000000 in
theorem told_bool (o : Option Addr) (n j : Nat) (b : Bool) (g v : Int) (s : ByteArray) (w : World) : Calls Tryd.prog 22 #[.agg #[.int .i64 2, .slice o n j, .bool b, .int .i64 g, .int .i64 v, .string s]] w fun e w' => e = .returned (.iface 51 (.bool b)) ∧ Below w.heap.size w w' := by
  go_enter Tryd.func22, Tryd.ntmps22
  go_wp2_with fail
  go_ret
  exact ⟨rfl, below_box _ _⟩
set_option maxHeartbeats 2000000 in
theorem told_str (o : Option Addr) (n j : Nat) (b : Bool) (g v : Int) (s : ByteArray) (w : World) : Calls Tryd.prog 22 #[.agg #[.int .i64 4, .slice o n j, .bool b, .int .i64 g, .int .i64 v, .string s]] w fun e w' => e = .returned (.iface 65 (.string s)) ∧ Below w.heap.size w w' := by
  go_enter Tryd.func22, Tryd.ntmps22
  go_wp2_with fail
  go_ret
  exact ⟨rfl, below_box _ _⟩
set_option maxHeartbeats 2000000 in
theorem mkBool_any (b : Bool) (w : World) : Calls Tryd.prog 26 #[.bool b] w fun e w' => e = .returned (.agg #[.int .i64 2, .slice none 0 0, .bool b, .int .i64 0, .int .i64 0, .string ⟨#[]⟩]) ∧ Below w.heap.size w w' := by
  go_enter Tryd.func26, Tryd.ntmps26
  go_wp2_with fail
  exact end_val rfl (t := 2) (o := none) (n := 0) (j := 0) (b := b) (g := 0) (v := 0) (s := ⟨#[]⟩) _ (w.heap.size) (by exact heap_alloc_new w (boxVa 2 none 0 0 b 0 0 ⟨#[]⟩)) rfl rfl ⟨rfl, below_box w _⟩
theorem as_truth_nodes (b : Bool) (w : World) : (Instr.typeAssert (.iface 51 (.bool b)) 20 64 true).run Tryd.prog w = .ok (.tuple #[.slice none 0 0, .bool false]) w := by kernel_rfl
theorem as_truth_truth (b : Bool) (w : World) : (Instr.typeAssert (.iface 51 (.bool b)) 20 51 true).run Tryd.prog w = .ok (.tuple #[.bool b, .bool true]) w := by kernel_rfl
theorem as_truth_number (b : Bool) (w : World) : (Instr.typeAssert (.iface 51 (.bool b)) 20 53 true).run Tryd.prog w = .ok (.tuple #[.agg #[.int .i64 0, .int .i64 0], .bool false]) w := by kernel_rfl
theorem as_truth_text (b : Bool) (w : World) : (Instr.typeAssert (.iface 51 (.bool b)) 20 65 true).run Tryd.prog w = .ok (.tuple #[.string ⟨#[]⟩, .bool false]) w := by kernel_rfl
theorem as_number_nodes (g v : Int) (w : World) : (Instr.typeAssert (.iface 53 (.agg #[.int .i64 g, .int .i64 v])) 20 64 true).run Tryd.prog w = .ok (.tuple #[.slice none 0 0, .bool false]) w := by kernel_rfl
theorem as_number_truth (g v : Int) (w : World) : (Instr.typeAssert (.iface 53 (.agg #[.int .i64 g, .int .i64 v])) 20 51 true).run Tryd.prog w = .ok (.tuple #[.bool false, .bool false]) w := by kernel_rfl
theorem as_number_number (g v : Int) (w : World) : (Instr.typeAssert (.iface 53 (.agg #[.int .i64 g, .int .i64 v])) 20 53 true).run Tryd.prog w = .ok (.tuple #[.agg #[.int .i64 g, .int .i64 v], .bool true]) w := by kernel_rfl
theorem as_number_text (g v : Int) (w : World) : (Instr.typeAssert (.iface 53 (.agg #[.int .i64 g, .int .i64 v])) 20 65 true).run Tryd.prog w = .ok (.tuple #[.string ⟨#[]⟩, .bool false]) w := by kernel_rfl
theorem as_text_nodes (s : ByteArray) (w : World) : (Instr.typeAssert (.iface 65 (.string s)) 20 64 true).run Tryd.prog w = .ok (.tuple #[.slice none 0 0, .bool false]) w := by kernel_rfl
theorem as_text_truth (s : ByteArray) (w : World) : (Instr.typeAssert (.iface 65 (.string s)) 20 51 true).run Tryd.prog w = .ok (.tuple #[.bool false, .bool false]) w := by kernel_rfl
theorem as_text_number (s : ByteArray) (w : World) : (Instr.typeAssert (.iface 65 (.string s)) 20 53 true).run Tryd.prog w = .ok (.tuple #[.agg #[.int .i64 0, .int .i64 0], .bool false]) w := by kernel_rfl
theorem as_text_text (s : ByteArray) (w : World) : (Instr.typeAssert (.iface 65 (.string s)) 20 65 true).run Tryd.prog w = .ok (.tuple #[.string s, .bool true]) w := by kernel_rfl
end Go.Proofs.YteooaibbblfmjaaDoor.Char
