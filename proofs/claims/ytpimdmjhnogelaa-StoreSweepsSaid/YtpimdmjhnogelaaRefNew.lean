/- The walk of the document's own New. -/
import Derived.Test.YtpimdmjhnogelaaRefFr
namespace Go.Proofs.Ytpimdmjhnogelaa.Char
open Go.RowKit Go.Lib

def rootV : RcV := (rootR, .slice none 0 0, .slice none 0 0)
set_option maxRecDepth 100000 in
set_option maxHeartbeats 4000000 in
theorem refNew_any (B : Nat) (w : World) (hB : B ≤ w.heap.size) :
    Calls Try.prog 9 #[] w fun e w' => ∃ b v, e = .returned (.pointer (some ⟨b, 0, none⟩)) ∧ RefS B w' b v [(1, 0, rootV)] 1 0 ∧ Below w.heap.size w w' ∧ ∀ k, ownB b v k → w.heap.size ≤ k := by
  go_enter Try.func9, Try.ntmps9
  go_wp2_with fail
  go_ret
  obtain ⟨cs, hcs⟩ : ∃ cs : Array Value, cs = #[.int .i64 1, .int .u64 0, .int .i64 1, .string ⟨#[]⟩, .string ⟨#[]⟩, .int .i64 0, .slice none 0 0, .slice none 0 0, .bool false] := ⟨_, rfl⟩
  refine ⟨w.heap.size + 1, .slice (some ⟨w.heap.size, 0, none⟩) 1 1, rfl, ?_, ((Below.refl _ _).alloc (Nat.le_refl _) _).alloc (by simp) _, fun k hk => ?_⟩
  · rw [← hcs]
    have s1 : (w.alloc (.cells cs 92)).heap.size = w.heap.size + 1 := by simp
    refine ⟨by rw [← s1]; exact World.alloc_heap_new _ _, ⟨⟨rfl, .inr ⟨w.heap.size, 1, cs, rfl, hB, ?_, Nat.le_refl _, by decide, by rw [hcs]; rfl, by rw [hcs]; rfl⟩⟩, fun x hx => ?_⟩, by omega⟩
    · rw [Below.heap_alloc _ _ _ (by rw [s1]; omega)]
      exact World.alloc_heap_new _ _
    · rw [List.mem_singleton] at hx
      subst hx
      exact ⟨IntsOn.nil _ _ _ _, IntsOn.nil _ _ _ _⟩
  · rcases hk with rfl | hk
    · omega
    · simp [Value.ownBlock] at hk; omega
end Go.Proofs.Ytpimdmjhnogelaa.Char
