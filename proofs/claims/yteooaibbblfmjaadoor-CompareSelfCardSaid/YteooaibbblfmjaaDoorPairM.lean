/- Pairs by themselves; how two numbers stand; what a loop over pairs keeps. -/
import Derived.Test.YteooaibbblfmjaaDoorToldC
import Derived.RangeFuncNested
import Derived.RangeFuncWrites
import Derived.RangeFuncBound
import Derived.RangeFuncCalls
import Derived.RangeFuncLeaves
import Derived.RangeFuncBox
import Derived.Shelf.Abstract
import Derived.Shelf.RegionOpen
import Derived.WalkKit
import Derived.OwnWalkIn
import Derived.TacticsInMore
import Derived.LoopNIn
import Derived.LoopIn
import Derived.Lib.OthersKept
import Derived.Lib.Hide
import Derived.Laws.EntriesVeiled
import Derived.Test.YteooaibbblfmjaaDoorProg
namespace Go.Proofs.YteooaibbblfmjaaDoor.Char
open Go.RowKit Go.Shelf

def pairsL {α : Type} : List α → List α → List (α × α)
  | [], _ => []
  | x :: xs, ys => ys.map (fun y => (x, y)) ++ pairsL xs ys
theorem pairsL_any {α : Type} (p : α → α → Bool) : ∀ xs ys : List α, (pairsL xs ys).any (fun z => p z.1 z.2) = xs.any fun x => ys.any fun y => p x y
  | [], _ => rfl
  | x :: xs, ys => by
    rw [pairsL, List.any_append, List.any_cons, pairsL_any p xs ys, List.any_map]
    rfl
/-- how two numbers stand, told by how they are compared -/
def wayC (op c : Int) (s : Bool) : Bool :=
  if op = 3 then s && c == 0 else if op = 4 then !s || c != 0 else if op = 5 then s && decide (c < 0) else if op = 6 then s && decide (c ≤ 0) else if op = 7 then s && decide (0 < c) else if op = 8 then s && decide (0 ≤ c) else false
def wayL (op : Int) (x y : Nm) : Bool := wayC op (cmpD x y).1 (cmpD x y).2
/-- what the body of a loop keeps: all but one block -/
def KpN (n₀ bx : Nat) (W W' : World) : Prop := Below n₀ W W' ∧ ∀ (k : Nat) (o : Obj), W.heap[k]? = some o → o.isCells = true → k ≠ bx → W'.heap[k]? = some o
theorem kpN_t {n₀ bx : Nat} {A B C : World} (h : KpN n₀ bx A B) (k : KpN n₀ bx B C) : KpN n₀ bx A C := ⟨h.1.trans k.1, fun i o hi hc hb => k.2 i o (h.2 i o hi hc hb) hc hb⟩
theorem kpN_refl (n₀ bx : Nat) (W : World) : KpN n₀ bx W W := ⟨Below.refl _ _, fun _ _ h _ _ => h⟩
theorem kpN_b {n₀ bx m : Nat} (hm : n₀ ≤ m) (W : World) (l : Nat) (o o' : Obj) (hl : m ≤ l) (h : W.heap[l]? = some o) (hc : o.isCells = false) (_ : o.isWalk = false) : KpN n₀ bx W (W.putObj l o') := by
  refine ⟨⟨rfl, rfl, rfl, by simp, fun k hk => World.putObj_heap_other (by omega)⟩, fun k q hk hq _ => ?_⟩
  by_cases e : k = l
  · subst e
    rw [h] at hk
    cases hk
    rw [hc] at hq
    cases hq
  · exact (World.putObj_heap_other e).trans hk
theorem kpN_grow {n₀ bx : Nat} {W W' : World} (hn : n₀ ≤ W.heap.size) (h : Below W.heap.size W W') : KpN n₀ bx W W' := ⟨h.mono hn, fun k _ hk _ _ => (h.block k (Array.getElem?_eq_some_iff.1 hk).1).trans hk⟩
theorem kpN_blk {n₀ bx : Nat} {W W' : World} (h : KpN n₀ bx W W') {k : Nat} {cs : Array Value} {t : TypeId} {fz : Nat × Nat} (hk : W.heap[k]? = some (.cells cs t fz)) (hne : k ≠ bx) : W'.heap[k]? = some (.cells cs t fz) := h.2 k _ hk rfl hne
theorem cell_lt {w : World} {a : Addr} {v : Value} (h : w.cell? a = some v) : a.block < w.heap.size := by
  unfold World.cell? at h
  split at h
  · rename_i hh; exact (Array.getElem?_eq_some_iff.1 hh).1
  · cases h
theorem four_blk (w : World) (o0 o1 o2 o3 : Obj) : ((((w.alloc o0).alloc o1).alloc o2).alloc o3).heap[w.heap.size]? = some o0 ∧ ((((w.alloc o0).alloc o1).alloc o2).alloc o3).heap[w.heap.size + 1]? = some o1 ∧
    ((((w.alloc o0).alloc o1).alloc o2).alloc o3).heap[w.heap.size + 2]? = some o2 ∧ ((((w.alloc o0).alloc o1).alloc o2).alloc o3).heap[w.heap.size + 3]? = some o3 := by
  have h0 := World.alloc_heap_new w o0
  have h1 := World.alloc_heap_new (w.alloc o0) o1
  have h2 := World.alloc_heap_new ((w.alloc o0).alloc o1) o2
  have h3 := World.alloc_heap_new (((w.alloc o0).alloc o1).alloc o2) o3
  rw [World.size_alloc] at h1 h2 h3
  rw [World.size_alloc] at h2 h3
  rw [World.size_alloc] at h3
  exact ⟨(Below.heap_alloc _ _ _ (by simp only [World.size_alloc]; omega)).trans ((Below.heap_alloc _ _ _ (by simp only [World.size_alloc]; omega)).trans ((Below.heap_alloc _ _ _ (by simp only [World.size_alloc]; omega)).trans h0)), (Below.heap_alloc _ _ _ (by simp only [World.size_alloc]; omega)).trans ((Below.heap_alloc _ _ _ (by simp only [World.size_alloc]; omega)).trans h1), (Below.heap_alloc _ _ _ (by simp only [World.size_alloc]; omega)).trans h2, h3⟩
theorem cellB {w w' : World} {k : Nat} (h : w'.heap[k]? = w.heap[k]?) (o : Nat) : w'.cell? ⟨k, o, none⟩ = w.cell? ⟨k, o, none⟩ := by simp [World.cell?, h]
theorem frozenB {w w' : World} {k : Nat} (h : w'.heap[k]? = w.heap[k]?) (o : Nat) : w'.frozen? ⟨k, o, none⟩ = w.frozen? ⟨k, o, none⟩ := by simp [World.frozen?, h]
theorem cell_def {w : World} {k i : Nat} {x : Option (List Deferred)} {v : Value} (h : w.heap[k]? = some (.deferred x)) (hc : w.cell? ⟨k, i, none⟩ = some v) : False := by simp [World.cell?, h] at hc
theorem heap_ne {w : World} {b o k : Nat} {v : Value} (h : k ≠ b) : (w.setCell ⟨b, o, none⟩ v).heap[k]? = w.heap[k]? := Below.heap_setCell w ⟨b, o, none⟩ v k h
theorem keeps_low {W W' : World} (h : Below W.heap.size W W') : KeepsOthers W W' := ⟨h.size, fun k _ hk _ => (h.block k (Array.getElem?_eq_some_iff.1 hk).1).trans hk⟩
/-- a row of texts -/
def TxsOn (W : World) (v : Value) (xs : List ByteArray) : Prop :=
  ∃ (o : Option Addr) (c : Nat), v = .slice o xs.length c ∧ (xs = [] ∨ ∃ g off, o = some ⟨g, off, none⟩ ∧ g < W.heap.size ∧ ∀ k (hk : k < xs.length), W.cell? ⟨g, off + k, none⟩ = some (.string xs[k]))
/-- a row of numbers, by their two words -/
def DcsOn (W : World) (v : Value) (xs : List (Int × Int)) : Prop :=
  ∃ (o : Option Addr) (c : Nat), v = .slice o xs.length c ∧ (xs = [] ∨ ∃ g off, o = some ⟨g, off, none⟩ ∧ g < W.heap.size ∧ ∀ k (hk : k < xs.length), W.cell? ⟨g, off + k * 2, none⟩ = some (.int .i64 xs[k].1) ∧ W.cell? ⟨g, off + k * 2 + 1, none⟩ = some (.int .i64 xs[k].2))
theorem TxsOn.below {W W' : World} {v : Value} {xs : List ByteArray} (h : TxsOn W v xs) (hb : Below W.heap.size W W') : TxsOn W' v xs := by
  obtain ⟨o, c, e, h⟩ := h
  refine ⟨o, c, e, h.imp id ?_⟩
  rintro ⟨g, off, e1, e2, e3⟩
  exact ⟨g, off, e1, Nat.lt_of_lt_of_le e2 hb.size, fun k hk => (hb.cell (p := ⟨g, off + k, none⟩) e2).trans (e3 k hk)⟩
theorem DcsOn.below {W W' : World} {v : Value} {xs : List (Int × Int)} (h : DcsOn W v xs) (hb : Below W.heap.size W W') : DcsOn W' v xs := by
  obtain ⟨o, c, e, h⟩ := h
  refine ⟨o, c, e, h.imp id ?_⟩
  rintro ⟨g, off, e1, e2, e3⟩
  exact ⟨g, off, e1, Nat.lt_of_lt_of_le e2 hb.size, fun k hk => ⟨(hb.cell (p := ⟨g, off + k * 2, none⟩) e2).trans (e3 k hk).1, (hb.cell (p := ⟨g, off + k * 2 + 1, none⟩) e2).trans (e3 k hk).2⟩⟩
end Go.Proofs.YteooaibbblfmjaaDoor.Char
