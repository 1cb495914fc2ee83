/- Numbers, and texts, of a value that is no nodes (written by gen_numbs.py). -/
import Derived.Test.YteooaibbblfmjaaDoorSomeS
import Derived.Test.YteooaibbblfmjaaDoorSomeD
namespace Go.Proofs.YteooaibbblfmjaaDoor.Char
open Go.RowKit Go.Lib

set_option maxRecDepth 100000 in
set_option maxHeartbeats 4000000 in
theorem numbers_one (p : Value) (t : Int) (o : Option Addr) (n j : Nat) (b : Bool) (g v : Int) (s : ByteArray) (w : World) (ht : (t != 1) = true) (a c : Int) (hN : ∀ W, Below w.heap.size w W → Calls Tryd.prog 12 #[p, .agg #[.int .i64 t, .slice o n j, .bool b, .int .i64 g, .int .i64 v, .string s]] W fun e w' => e = .returned (.agg #[.int .i64 a, .int .i64 c]) ∧ Below W.heap.size W w') :
    Calls Tryd.prog 15 #[p, .agg #[.int .i64 t, .slice o n j, .bool b, .int .i64 g, .int .i64 v, .string s]] w fun e w' => ∃ va, e = .returned va ∧ DcsOn w' va [(a, c)] ∧ Below w.heap.size w w' := by
  have HN := Lib.hid hN
  clear hN
  have HB := Lib.hid (below_box w (boxVa t o n j b g v s))
  go_enter Tryd.func15, Tryd.ntmps15
  go_wp2_with (first
    | (go_at_call 12
       refine (HN.out _ HB.out).mono ?_
       rintro e w1 ⟨rfl, hb⟩
       have HB1 := Lib.hid (HB.out.trans (hb.mono HB.out.size))
       clear hb))
  go_ret
  refine ⟨_, rfl, ⟨_, _, rfl, .inr ⟨w1.heap.size, 0, rfl, by simp, fun k hk => ?_⟩⟩, HB1.out.alloc HB1.out.size _⟩
  obtain rfl : k = 0 := by simp at hk; omega
  exact dcells (World.alloc_heap_new w1 _)
set_option maxRecDepth 100000 in
set_option maxHeartbeats 4000000 in
theorem texts_one (p : Value) (t : Int) (o : Option Addr) (n j : Nat) (b : Bool) (g v : Int) (s : ByteArray) (w : World) (ht : (t != 1) = true) (r : ByteArray) (hN : ∀ W, Below w.heap.size w W → Calls Tryd.prog 25 #[p, .agg #[.int .i64 t, .slice o n j, .bool b, .int .i64 g, .int .i64 v, .string s]] W fun e w' => e = .returned (.string r) ∧ Below W.heap.size W w') :
    Calls Tryd.prog 17 #[p, .agg #[.int .i64 t, .slice o n j, .bool b, .int .i64 g, .int .i64 v, .string s]] w fun e w' => ∃ va, e = .returned va ∧ TxsOn w' va [r] ∧ Below w.heap.size w w' := by
  have HN := Lib.hid hN
  clear hN
  have HB := Lib.hid (below_box w (boxVa t o n j b g v s))
  go_enter Tryd.func17, Tryd.ntmps17
  go_wp2_with (first
    | (go_at_call 25
       refine (HN.out _ HB.out).mono ?_
       rintro e w1 ⟨rfl, hb⟩
       have HB1 := Lib.hid (HB.out.trans (hb.mono HB.out.size))
       clear hb))
  go_ret
  refine ⟨_, rfl, ⟨_, _, rfl, .inr ⟨w1.heap.size, 0, rfl, by simp, fun k hk => ?_⟩⟩, HB1.out.alloc HB1.out.size _⟩
  obtain rfl : k = 0 := by simp at hk; omega
  exact scell (World.alloc_heap_new w1 _)
end Go.Proofs.YteooaibbblfmjaaDoor.Char
