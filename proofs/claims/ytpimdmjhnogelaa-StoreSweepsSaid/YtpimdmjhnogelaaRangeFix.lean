/- A range over a function whose elements are known ahead: an own law over the library's steps. (The elder laws ask the body at any element whatever; here the body is asked only at the next one, and the iterator may ask of the world what the loop's invariant says.) -/
import Derived.RangeFuncNested
import Derived.RangeFuncWrites
import Derived.Test.YtpimdmjhnogelaaProg
namespace Go.Proofs.Ytpimdmjhnogelaa.Char
open Go.RowKit

/-- what an iterator is to do: it hands over xs0, in this order, as long as the world is as 'St' says; of what lies between the call and m nothing may be turned -/
def SeqFix {α : Type} (F : Fence) (n : Nat) (P : Program) (g : Nat) (lb : Array Value) (encs : α → Array Value) (St : List α → World → Prop) (xs0 : List α) (w : World) : Prop :=
  ∀ (l : Nat) (J : Nat → List α → World → Prop) (W : World), Below w.heap.size w W → (∀ m pre W1, J m pre W1 → St pre W1) → (∀ W1, Below W.heap.size W W1 → J W1.heap.size [] W1) →
    (∀ m pre x W1, W.heap.size ≤ m → m ≤ W1.heap.size → J m pre W1 → (pre ++ [x]) <+: xs0 → YieldAt F (n - 1) P l (encs x) W1 fun e W' =>
      e = .returned (.bool true) ∧ J m (pre ++ [x]) W' ∧ m ≤ W'.heap.size ∧ ∀ k, W.heap.size ≤ k → k < m → W'.heap[k]? = W1.heap[k]?) →
    CallsIn F n P g (#[.func (.yield l) #[] #[]] ++ lb) W fun e W' => (∃ v, e = .returned v) ∧ ∃ m, W.heap.size ≤ m ∧ J m xs0 W'
/-- how a round's body is to end -/
def fixPost {α : Type} (B m : Nat) (I : Nat → List α → World → Prop) (xs : List α) (W : World) : Exit → Act → World → Prop
  | .normal, _, W' => I m xs W' ∧ m ≤ W'.heap.size ∧ ∀ k, B ≤ k → k < m → W'.heap[k]? = W.heap[k]?
  | _, _, _ => False
section
variable {F : Fence} {n : Nat} {P : Program}
theorem below_putObj {B : Nat} {A W : World} (h : Below B A W) {l : Nat} (hl : B ≤ l) (o : Obj) : Below B A (W.putObj l o) :=
  ⟨h.os, h.tape, h.output, by rw [World.putObj_size]; exact h.size, fun k hk => (World.putObj_heap_other (by omega)).trans (h.block k hk)⟩
theorem wpIn_rangeFunc_fix {α : Type} {g : Operand} {ps : Array Tmp} {assign body : Code} {Q : Exit → Act → World → Prop} {a : Act} {w : World}
    (hro : F.round = none) (h1 : 1 ≤ n) {gf : Nat} {lb : Array Value} (hg : a.eval g = .func (.func gf) #[] lb) (hFg : F.fn gf) (eg : ∀ args w, (callFunc gf args).run P w = .ok (.enter gf args) w)
    {encs : α → Array Value} {St : List α → World → Prop} {xs0 : List α} {w0 : World} (hseq : SeqFix F (n - 1) P gf lb encs St xs0 w0) (hb0 : Below w0.heap.size w0 w) (hps : ∀ x, (encs x).size = ps.size)
    (I : Nat → List α → World → Prop) (hI : ∀ m pre W l o o', I m pre W → w.heap.size ≤ l → W.heap[l]? = some o → o.isCells = false → o.isWalk = false → I m pre (W.putObj l o')) (hSt : ∀ m pre W, I m pre W → St pre W) (h0 : ∀ W, Below w.heap.size w W → I W.heap.size [] W) (a₁ : α → Act)
    (hassign : ∀ (l : Nat) (x : α) (W : World) (K : Act → World → Prop), K (a₁ x) W →
      assign.wpIn (F.inRound l) (n - 1 - 1) P (Exit.then K (fun _ _ _ => False)) { tmps := (ps.zip (encs x)).foldl (fun t (p, v) => t.setIfInBounds p v) a.tmps, defers := [] } W)
    (hbody : ∀ (l m : Nat) (pre : List α) (x : α) (W : World), w.heap.size + 2 ≤ m → m ≤ W.heap.size → I m pre W → (pre ++ [x]) <+: xs0 → body.wpIn (F.inRound l) (n - 1 - 1) P (fixPost w.heap.size m I (pre ++ [x]) W) (a₁ x) W)
    (hdone : ∀ (D m : Nat) (W : World), w.heap.size ≤ D → I m xs0 W → W.heap[D]? = some (.deferred (some [])) → Q .normal { a with defers := { target := .collected D, args := #[] } :: a.defers } W) :
    (Code.rangeFunc g ps assign body).wpIn F n P Q a w := by
  refine wpIn_rangeFunc fun fn hfn => ?_
  rw [hro]
  -- the loop's two blocks: its deferred calls at w.heap.size, its record behind
  obtain ⟨L, hL⟩ : ∃ L : LoopState → Loop, L = fun st => { state := st, pending := none, fn, tmps := a.tmps, params := ps, assign, body, defers := w.heap.size } := ⟨_, rfl⟩
  obtain ⟨Wc, hWc⟩ : ∃ Wc, Wc = (w.alloc (.deferred (some []))).alloc (.loop (L .ready)) := ⟨_, rfl⟩
  have sWc : Wc.heap.size = w.heap.size + 2 := by rw [hWc]; simp
  have bWc : Below w.heap.size w Wc := by rw [hWc]; exact ((Below.refl _ w).alloc (Nat.le_refl _) _).alloc (by simp) _
  have r1 : Wc.heap[w.heap.size + 1]? = some (.loop (L .ready)) := by
    rw [hWc]; have := World.alloc_heap_new (w.alloc (.deferred (some []))) (.loop (L .ready)); rwa [World.size_alloc] at this
  have r0 : Wc.heap[w.heap.size]? = some (.deferred (some [])) := by
    rw [hWc]; exact (Below.heap_alloc _ _ _ (by simp)).trans (World.alloc_heap_new w _)
  refine ⟨w.heap.size + 1, [{ target := .collected w.heap.size, args := #[] }], Wc, { target := .fn (.func gf) lb, args := #[.func (.yield (w.heap.size + 1)) #[] #[]] }, Wc, gf, #[.func (.yield (w.heap.size + 1)) #[] #[]] ++ lb, Wc, ?_, ?_, ?_, ?_, fun _ => h1, ?_⟩
  · rw [hWc, hL]; exact run_enterLoop_outer _ _ _ _ _
  · simp only [resolve, hg]
    simp [go_sem]
  · intro f' hf'
    simp [Target.leads] at hf'
    subst hf'
    exact hFg
  · simp [invoke, go_sem, eg]
  · refine (hseq (w.heap.size + 1) (fun m pre W => I m pre W ∧ W.heap[w.heap.size + 1]? = some (.loop (L .ready)) ∧ W.heap[w.heap.size]? = some (.deferred (some []))) Wc (hb0.trans (bWc.mono hb0.size)) (fun m pre W1 h => hSt m pre W1 h.1) (fun W1 hb => ?_) ?_).mono ?_
    · exact ⟨h0 W1 (bWc.trans (hb.mono (by omega))), (hb.block _ (by omega)).trans r1, (hb.block _ (by omega)).trans r0⟩
    · rintro m pre x W hm hmW ⟨hi, hl, hk⟩ hpx
      have hlt : w.heap.size + 1 < W.heap.size := (Array.getElem?_eq_some_iff.1 hl).1
      have hy := run_yield (P := P) (args := encs x) hl (by rw [hL]; exact hps x)
      rw [hL] at hy
      refine ⟨fn, _, assign, body, hy, roundIn_of_wpIn hfn (hassign _ x W _ ⟨_, run_beginRound hl (by rw [hL]), ?_⟩)⟩
      obtain ⟨W2, hW2⟩ : ∃ W2, W2 = W.putObj (w.heap.size + 1) (.loop { L .ready with state := .busy }) := ⟨_, rfl⟩
      rw [← hW2]
      have q1 : W2.heap[w.heap.size + 1]? = some (.loop { L .ready with state := .busy }) := by rw [hW2]; exact World.putObj_heap_same hlt
      have q0 : W2.heap[w.heap.size]? = some (.deferred (some [])) := by rw [hW2]; exact (World.putObj_heap_other (by omega)).trans hk
      have i2 : I m pre W2 := by rw [hW2]; exact hI m pre W _ _ _ hi (by omega) hl rfl rfl
      have s2 : W2.heap.size = W.heap.size := by rw [hW2, World.putObj_size]
      refine wpIn_mono (hbody _ m pre x W2 (by omega) (by omega) i2 hpx) ?_
      rintro e a3 W3 hp
      match e, hp with
      | .normal, ⟨i3, m3, f3⟩ =>
        have t1 := (f3 _ (by omega) (by omega)).trans q1
        have t0 := (f3 _ (by omega) (by omega)).trans q0
        have hr := run_endRound (P := P) none t1
        refine ⟨_, _, hr, rfl, ⟨hI m _ W3 _ _ _ i3 (by omega) t1 rfl rfl, ?_, ?_⟩, ?_, fun k k1 k2 => ?_⟩
        · rw [World.putObj_heap_same (Array.getElem?_eq_some_iff.1 t1).1, hL]; rfl
        · exact (World.putObj_heap_other (by omega)).trans t0
        · rw [World.putObj_size]; exact m3
        · rw [World.putObj_heap_other (by omega), f3 k (by omega) k2, hW2, World.putObj_heap_other (by omega)]
    · rintro e W2 ⟨⟨v, rfl⟩, m, hm, hi, hl, hk⟩
      have he := run_endLoop (P := P) hl (by rw [hL]; simp)
      rw [hL] at he
      exact ⟨none, _, he, hdone w.heap.size m _ (Nat.le_refl _) (hI m _ W2 _ _ _ hi (by omega) hl rfl rfl) ((World.putObj_heap_other (by omega)).trans hk)⟩
end
end Go.Proofs.Ytpimdmjhnogelaa.Char
