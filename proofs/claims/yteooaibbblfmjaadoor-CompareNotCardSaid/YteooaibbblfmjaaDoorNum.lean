/- A slice that holds digits; the walks of the document's own trim, at, least and Digits. -/
import Derived.Test.YteooaibbblfmjaaDoorDig
import Derived.Test.YteooaibbblfmjaaDoorProg
import Derived.WalkKit
import Derived.Below
import Derived.Outline
import Derived.Lib.Hide
import Derived.Laws.AppendOwn
import Derived.OwnWalk
import Derived.Laws.OwnMore
import Derived.Deep.QuietTactic
import Derived.BigQuiet
namespace Go.Proofs.YteooaibbblfmjaaDoor.Char
open Go.RowKit

theorem info_int : (Tryd.prog.info? 3).map (fun i => (i.zero, i.size, i.bytes)) = some (some (.int .i64 0), 1, 8) := by kernel_rfl

/-- digits as cells -/
def ics (l : List Nat) : List Value := l.map fun d : Nat => Value.int .i64 (d : Int)
theorem ics_length (l : List Nat) : (ics l).length = l.length := by simp [ics]
theorem ics_get (l : List Nat) (k : Nat) (h : k < l.length) : (ics l)[k]? = some (.int .i64 ((l.getD k 0 : Nat) : Int)) := by
  simp [ics, List.getD, List.getElem?_eq_getElem h]
theorem ics_append (a b : List Nat) : ics (a ++ b) = ics a ++ ics b := by simp [ics]
theorem ics_set (l : List Nat) (p d : Nat) : (ics l).set p (.int .i64 (d : Int)) = ics (l.set p d) := by simp [ics]

/-- a slice that reads as these digits -/
def Holds (w : World) (v : Value) (l : List Nat) : Prop :=
  ∃ a cap, v = .slice a l.length cap ∧ l.length ≤ cap ∧ (a = none → cap = 0) ∧ ∀ j, j < l.length → ∃ g, a = some ⟨g, 0, none⟩ ∧ g < w.heap.size ∧ w.cell? ⟨g, j, none⟩ = some (.int .i64 ((l.getD j 0 : Nat) : Int))
/-- a slice of one's own that holds these digits -/
def Owns (n₀ : Nat) (w : World) (v : Value) (l : List Nat) : Prop := w.ownsRow n₀ 3 1 v l.length (ics l)
theorem Owns.holds {n₀ : Nat} {w : World} {v : Value} {l : List Nat} (h : Owns n₀ w v l) : Holds w v l := by
  have hc := h
  rcases h.2 with ⟨rfl, hn⟩ | ⟨g, cap, cur, rfl, hg, hcur, hn, _⟩
  · exact ⟨none, 0, by rw [hn], by omega, fun _ => rfl, fun j hj => by omega⟩
  · refine ⟨_, cap, rfl, hn, fun h => (by cases h), fun j hj => ⟨g, rfl, (Array.getElem?_eq_some_iff.1 hcur).1, ?_⟩⟩
    have := hc.cells (g := g) rfl j _ (ics_get l j hj)
    have hadd : (⟨g, 0, none⟩ : Addr).add j = ⟨g, j, none⟩ := by unfold Addr.add; split <;> simp_all
    rwa [hadd] at this
theorem Holds.below {w w' : World} {v : Value} {l : List Nat} (h : Holds w v l) (hb : Below w.heap.size w w') : Holds w' v l := by
  obtain ⟨a, cap, hv, hn, hnil, hc⟩ := h
  refine ⟨a, cap, hv, hn, hnil, fun j hj => ?_⟩
  obtain ⟨g, h1, h2, h3⟩ := hc j hj
  exact ⟨g, h1, Nat.lt_of_lt_of_le h2 hb.size, (hb.cell (p := ⟨g, j, none⟩) h2).trans h3⟩
theorem Holds.nil (w : World) : Holds w (.slice none 0 0) [] := ⟨none, 0, rfl, Nat.le_refl _, fun _ => rfl, fun j hj => by simp at hj⟩

theorem Owns.nil (n₀ : Nat) (w : World) : Owns n₀ w (.slice none 0 0) [] := World.ownsRow_nil _ _ _ _
theorem Owns.drewN {n₀ : Nat} {w : World} {v : Value} {l : List Nat} (h : Owns n₀ w v l) (k : Nat) : Owns n₀ (w.drewN k) v l := h

/-- a value of which the memory, if there is any, is new -/
def Fresh (n₀ : Nat) (v : Value) : Prop := ∀ g, v.ownBlock = some g → n₀ ≤ g
theorem Owns.fresh {n₀ : Nat} {w : World} {v : Value} {l : List Nat} (h : Owns n₀ w v l) : Fresh n₀ v := by
  intro k hk
  rcases h.2 with ⟨rfl, _⟩ | ⟨g, cap, cur, rfl, hg, _⟩
  · simp [Value.ownBlock] at hk
  · simp [Value.ownBlock] at hk; omega
theorem Fresh.of_eq {n₀ : Nat} {v v' : Value} (h : Fresh n₀ v) (e : v'.ownBlock = v.ownBlock) : Fresh n₀ v' := fun g hg => h g (e ▸ hg)
theorem Fresh.mono {n₀ n₁ : Nat} {v : Value} (h : Fresh n₁ v) (e : n₀ ≤ n₁) : Fresh n₀ v := fun g hg => Nat.le_trans e (h g hg)

/-- what trim leaves -/
def TrimPost (w : World) (v₀ : Value) (l : List Nat) (e : Ending) (w' : World) : Prop := ∃ v, e = .returned v ∧ Holds w v (dg (val l)) ∧ v.ownBlock = v₀.ownBlock ∧ w = w'

/-- one number more, behind what one's own slice holds -/
theorem wpList_push {ops : Array Oper} {rest : List Oper} {o : Oper} {a : Act} {Q : Exit → Act → World → Prop} {W w : World} {v : Value} {acc : List Nat} {z : Int}
    (hgd : o.guard = none) (s x : Operand) (ho : o.op = .call { callee := .builtin .append, args := #[s, x], argTypes := #[22, 22] })
    (d : Nat) (hown : Owns w.heap.size W v acc) (hs : a.eval s = v) (hx : a.eval x = .slice (some ⟨W.heap.size, 0, none⟩) 1 1) (hb : Below w.heap.size w W) (hz : z = (d : Int)) (hlen : acc.length ≤ 1000)
    (h : ∀ v' w1, Owns w.heap.size w1 v' (acc ++ [d]) → Below w.heap.size w w1 → wpList Tryd.prog ops Q rest (a.put o.dst v') w1) :
    wpList Tryd.prog ops Q (o :: rest) a (W.alloc (.cells #[.int .i64 z] 3)) := by
  obtain ⟨i0, hi, hz0, hz1, hz2⟩ := info_parts info_int
  have hwb := hb.size
  subst hz
  refine wpList_append_own _ hgd s x 22 ho w.heap.size 3 i0 (.int .i64 0) 1 8 Tryd.underlying22 hi hz0 hz1 hz2 rfl (by decide) v acc.length (ics acc) hs (World.ownsRow.alloc hown _) ⟨W.heap.size, 0, none⟩ 1 1 [.int .i64 (d : Int)] hx rfl ?_ ?_ ?_ ?_ ?_ ?_
  · intro j u hj
    match j, hj with
    | 0, hj => simp at hj; subst hj; simp [Addr.add]
  · intro u hu; simp at hu; subst hu; rfl
  · unfold maxLen; omega
  · omega
  · simp; omega
  · intro v' w1 hown' hgrow _
    refine h v' w1 ?_ ((hb.alloc hwb _).grown hgrow (by simp; omega) (fun k hk => by
      rcases hown.2 with ⟨rfl, _⟩ | ⟨g, cap, cur, rfl, hg, _⟩
      · simp [Value.ownBlock] at hk
      · simp [Value.ownBlock] at hk; omega))
    unfold Owns
    rw [List.length_append, ics_append]
    exact hown'
end Go.Proofs.YteooaibbblfmjaaDoor.Char
