/- The walks of package value's told, Num, Str, Bool (written by gen_tov.py). -/
import Derived.Test.YtgoicjeegfflpaaDoorInt16
import Derived.Test.YtgoicjeegfflpaaDoorShow
import Derived.Test.YtgoicjeegfflpaaDoorRead
namespace Go.Proofs.YtgoicjeegfflpaaDoor.Char
open Go.RowKit Go.Lib

theorem below_box (w : World) (o : Obj) : Below w.heap.size w (w.alloc o) := (Below.refl _ _).alloc (Nat.le_refl _) _
/-- a value's six cells, in a box -/
def boxVa (t : Int) (b : Bool) (g v : Int) (s : ByteArray) : Obj := .cells #[.int .i64 t, .slice none 0 0, .bool b, .int .i64 g, .int .i64 v, .string s] 26
theorem boxVa_blk {w : World} {p : Nat} {t : Int} {b : Bool} {g v : Int} {s : ByteArray} (h : w.heap[p]? = some (boxVa t b g v s)) :
    (w.cell? ⟨p, 0, none⟩ = some (.int .i64 t) ∧ w.cell? ⟨p, 1, none⟩ = some (.slice none 0 0) ∧ w.cell? ⟨p, 2, none⟩ = some (.bool b) ∧ w.cell? ⟨p, 3, none⟩ = some (.int .i64 g) ∧ w.cell? ⟨p, 4, none⟩ = some (.int .i64 v) ∧ w.cell? ⟨p, 5, none⟩ = some (.string s)) ∧ ∀ i, w.frozen? ⟨p, i, none⟩ = false := by
  unfold boxVa at h
  exact ⟨⟨by simp [World.cell?, h], by simp [World.cell?, h], by simp [World.cell?, h], by simp [World.cell?, h], by simp [World.cell?, h], by simp [World.cell?, h]⟩, fun i => by simp [World.frozen?, h]⟩
theorem end_val {fn : Func} {p : Tmp} (h : fn.results = #[.cell p 26]) {a : Act} {R : Ending → World → Prop} (w1 : World) (k : Nat) {t : Int} {b : Bool} {g v : Int} {s : ByteArray} (hk : w1.heap[k]? = some (boxVa t b g v s))
    (hp : a.tmps.getD p undef = .pointer (some ⟨k, 0, none⟩)) (hd : a.defers = []) (hR : R (.returned (.agg #[.int .i64 t, .slice none 0 0, .bool b, .int .i64 g, .int .i64 v, .string s])) w1) : bodyPost Tryd.prog fn R .ret a w1 := by
  have hp' : a.tmps[p]?.getD undef = .pointer (some ⟨k, 0, none⟩) := by simpa using hp
  obtain ⟨⟨a0, a1, a2, a3, a4, a5⟩, _⟩ := boxVa_blk hk
  exact bodyPost_ret (by simp [results, h, hp', go_sem, a0, a1, a2, a3, a4, a5]) hd hR
set_option maxHeartbeats 2000000 in
theorem told_num (b : Bool) (g v : Int) (s : ByteArray) (w : World) : Calls Tryd.prog 12 #[.agg #[.int .i64 3, .slice none 0 0, .bool b, .int .i64 g, .int .i64 v, .string s]] w fun e w' => e = .returned (.iface 44 (.agg #[.int .i64 g, .int .i64 v])) ∧ Below w.heap.size w w' := by
  go_enter Tryd.func12, Tryd.ntmps12
  go_wp2_with fail
  go_ret
  exact ⟨rfl, below_box _ _⟩
set_option maxHeartbeats 2000000 in
theorem told_bool (b : Bool) (g v : Int) (s : ByteArray) (w : World) : Calls Tryd.prog 12 #[.agg #[.int .i64 2, .slice none 0 0, .bool b, .int .i64 g, .int .i64 v, .string s]] w fun e w' => e = .returned (.iface 42 (.bool b)) ∧ Below w.heap.size w w' := by
  go_enter Tryd.func12, Tryd.ntmps12
  go_wp2_with fail
  go_ret
  exact ⟨rfl, below_box _ _⟩
set_option maxHeartbeats 2000000 in
theorem told_str (b : Bool) (g v : Int) (s : ByteArray) (w : World) : Calls Tryd.prog 12 #[.agg #[.int .i64 4, .slice none 0 0, .bool b, .int .i64 g, .int .i64 v, .string s]] w fun e w' => e = .returned (.iface 46 (.string s)) ∧ Below w.heap.size w w' := by
  go_enter Tryd.func12, Tryd.ntmps12
  go_wp2_with fail
  go_ret
  exact ⟨rfl, below_box _ _⟩
set_option maxHeartbeats 2000000 in
theorem mkNum_any (g v : Int) (w : World) : Calls Tryd.prog 6 #[.agg #[.int .i64 g, .int .i64 v]] w fun e w' => e = .returned (.agg #[.int .i64 3, .slice none 0 0, .bool false, .int .i64 g, .int .i64 v, .string ⟨#[]⟩]) ∧ Below w.heap.size w w' := by
  go_enter Tryd.func6, Tryd.ntmps6
  go_wp2_with fail
  exact end_val rfl (t := 3) (b := false) (g := g) (v := v) (s := ⟨#[]⟩) _ (w.heap.size + 1) (by have := heap_alloc_new (w.alloc (.cells #[.int .i64 g, .int .i64 v] 23)) (boxVa 3 false g v ⟨#[]⟩); rw [World.size_alloc] at this; exact this) rfl rfl ⟨rfl, (below_box w _).alloc (by simp) _⟩
set_option maxHeartbeats 2000000 in
theorem mkStr_any (s : ByteArray) (w : World) : Calls Tryd.prog 4 #[.string s] w fun e w' => e = .returned (.agg #[.int .i64 4, .slice none 0 0, .bool false, .int .i64 0, .int .i64 0, .string s]) ∧ Below w.heap.size w w' := by
  go_enter Tryd.func4, Tryd.ntmps4
  go_wp2_with fail
  exact end_val rfl (t := 4) (b := false) (g := 0) (v := 0) (s := s) _ (w.heap.size) (by exact heap_alloc_new w (boxVa 4 false 0 0 s)) rfl rfl ⟨rfl, below_box w _⟩
set_option maxHeartbeats 2000000 in
theorem mkBool_any (b : Bool) (w : World) : Calls Tryd.prog 10 #[.bool b] w fun e w' => e = .returned (.agg #[.int .i64 2, .slice none 0 0, .bool b, .int .i64 0, .int .i64 0, .string ⟨#[]⟩]) ∧ Below w.heap.size w w' := by
  go_enter Tryd.func10, Tryd.ntmps10
  go_wp2_with fail
  exact end_val rfl (t := 2) (b := b) (g := 0) (v := 0) (s := ⟨#[]⟩) _ (w.heap.size) (by exact heap_alloc_new w (boxVa 2 b 0 0 ⟨#[]⟩)) rfl rfl ⟨rfl, below_box w _⟩
theorem as_truth_nodes (b : Bool) (w : World) : (Instr.typeAssert (.iface 42 (.bool b)) 20 38 true).run Tryd.prog w = .ok (.tuple #[.slice none 0 0, .bool false]) w := by kernel_rfl
theorem as_truth_truth (b : Bool) (w : World) : (Instr.typeAssert (.iface 42 (.bool b)) 20 42 true).run Tryd.prog w = .ok (.tuple #[.bool b, .bool true]) w := by kernel_rfl
theorem as_truth_number (b : Bool) (w : World) : (Instr.typeAssert (.iface 42 (.bool b)) 20 44 true).run Tryd.prog w = .ok (.tuple #[.agg #[.int .i64 0, .int .i64 0], .bool false]) w := by kernel_rfl
theorem as_truth_text (b : Bool) (w : World) : (Instr.typeAssert (.iface 42 (.bool b)) 20 46 true).run Tryd.prog w = .ok (.tuple #[.string ⟨#[]⟩, .bool false]) w := by kernel_rfl
theorem as_number_nodes (g v : Int) (w : World) : (Instr.typeAssert (.iface 44 (.agg #[.int .i64 g, .int .i64 v])) 20 38 true).run Tryd.prog w = .ok (.tuple #[.slice none 0 0, .bool false]) w := by kernel_rfl
theorem as_number_truth (g v : Int) (w : World) : (Instr.typeAssert (.iface 44 (.agg #[.int .i64 g, .int .i64 v])) 20 42 true).run Tryd.prog w = .ok (.tuple #[.bool false, .bool false]) w := by kernel_rfl
theorem as_number_number (g v : Int) (w : World) : (Instr.typeAssert (.iface 44 (.agg #[.int .i64 g, .int .i64 v])) 20 44 true).run Tryd.prog w = .ok (.tuple #[.agg #[.int .i64 g, .int .i64 v], .bool true]) w := by kernel_rfl
theorem as_number_text (g v : Int) (w : World) : (Instr.typeAssert (.iface 44 (.agg #[.int .i64 g, .int .i64 v])) 20 46 true).run Tryd.prog w = .ok (.tuple #[.string ⟨#[]⟩, .bool false]) w := by kernel_rfl
theorem as_text_nodes (s : ByteArray) (w : World) : (Instr.typeAssert (.iface 46 (.string s)) 20 38 true).run Tryd.prog w = .ok (.tuple #[.slice none 0 0, .bool false]) w := by kernel_rfl
theorem as_text_truth (s : ByteArray) (w : World) : (Instr.typeAssert (.iface 46 (.string s)) 20 42 true).run Tryd.prog w = .ok (.tuple #[.bool false, .bool false]) w := by kernel_rfl
theorem as_text_number (s : ByteArray) (w : World) : (Instr.typeAssert (.iface 46 (.string s)) 20 44 true).run Tryd.prog w = .ok (.tuple #[.agg #[.int .i64 0, .int .i64 0], .bool false]) w := by kernel_rfl
theorem as_text_text (s : ByteArray) (w : World) : (Instr.typeAssert (.iface 46 (.string s)) 20 46 true).run Tryd.prog w = .ok (.tuple #[.string s, .bool true]) w := by kernel_rfl
end Go.Proofs.YtgoicjeegfflpaaDoor.Char
