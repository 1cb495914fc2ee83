/- what Do's walks want (written by gen_do.py). -/
import Derived.Test.YteooaibbblfmjaaDoorNumbsC
import Derived.Deep.RegionHeld3
namespace Go.Proofs.YteooaibbblfmjaaDoor.Char
open Go.RowKit Go.Lib

theorem three_blk (w : World) (o0 o1 o2 : Obj) : (((w.alloc o0).alloc o1).alloc o2).heap[w.heap.size]? = some o0 ∧ (((w.alloc o0).alloc o1).alloc o2).heap[w.heap.size + 1]? = some o1 ∧ (((w.alloc o0).alloc o1).alloc o2).heap[w.heap.size + 2]? = some o2 := by
  obtain ⟨a, b, c, _⟩ := four_blk w o0 o1 o2 o2
  refine ⟨?_, ?_, ?_⟩
  · exact (Below.heap_alloc _ o2 _ (by simp only [World.size_alloc]; omega)).symm.trans a
  · exact (Below.heap_alloc _ o2 _ (by simp only [World.size_alloc]; omega)).symm.trans b
  · exact (Below.heap_alloc _ o2 _ (by simp only [World.size_alloc]; omega)).symm.trans c
set_option maxRecDepth 100000 in
set_option maxHeartbeats 8000000 in
theorem typed_any (t : Int) (o : Option Addr) (n j : Nat) (b : Bool) (g v : Int) (s : ByteArray) (ht : t = 2 ∨ t = 3 ∨ t = 4) (w : World) : Calls Tryd.prog 10 #[.agg #[.int .i64 t, .slice o n j, .bool b, .int .i64 g, .int .i64 v, .string s]] w fun e w' => e = .returned (.bool true) ∧ Below w.heap.size w w' := by
  rcases ht with rfl | rfl | rfl
  · exact typed_2 o n j b g v s w
  · exact typed_3 o n j b g v s w
  · exact typed_4 o n j b g v s w
end Go.Proofs.YteooaibbblfmjaaDoor.Char
