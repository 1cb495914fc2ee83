/- NoneV4 RangeOwn0 UpX ParentsX RefSame9 -/
import Derived.Test.YtkackejipgabfaaPk20
import Derived.Test.YtkackejipgabfaaPk09
import Derived.Test.YtkackejipgabfaaPk10
import Derived.Laws.EntriesVeiled
import Derived.Sort.LoopGhostIn
import Derived.Test.YtkackejipgabfaaPk05
import Derived.Test.YtkackejipgabfaaPk00
/- What else is asked of no view: New of no store, two nodes without anything. -/
namespace Go.Proofs.Ytkackejipgabfaa.Char
open Go.RowKit Go.Lib

set_option maxRecDepth 100000 in
set_option maxHeartbeats 1000000 in
theorem newV_nil (t : Nat) (w : World) : Calls Try.prog 20 #[.pointer none, .int .u64 (t : Int)] w fun e w' => e = .returned (.pointer none) ∧ w' = w := by
  go_enter Try.func20, Try.ntmps20
  go_wp2_with fail
  go_ret
  exact ⟨rfl, rfl⟩
set_option maxRecDepth 100000 in
set_option maxHeartbeats 2000000 in
theorem same_ats0 (w : World) : Calls Try.prog 60 #[.slice none 0 0, .slice none 0 0] w fun e w' => e = .returned (.bool true) ∧ w' = w := by
  go_enter Try.func60, Try.ntmps60
  go_wp2_with fail
  go_loopw [5] (fun v wr => v = .int .i64 0 ∧ wr = w) (fun _ _ => 0)
  case atStart => exact ⟨rfl, rfl⟩
  case round =>
    obtain ⟨rfl, rfl⟩ := hrel
    go_wp2_with fail
    go_ret
    exact ⟨rfl, rfl⟩
set_option maxRecDepth 100000 in
set_option maxHeartbeats 4000000 in
theorem same_nd0 (w : World) : Calls Try.prog 30 #[nd0, nd0] w fun e w' => e = .returned (.bool true) ∧ Below w.heap.size w w' := by
  obtain ⟨W2, hW2⟩ : ∃ W2, W2 = (w.alloc nd0B).alloc nd0B := ⟨_, rfl⟩
  have hb : Below w.heap.size w W2 := by rw [hW2]; exact ((Below.refl _ _).alloc (Nat.le_refl _) _).alloc (by simp) _
  have HA := Lib.hid (same_ats0 W2)
  have hk3 : W2.heap[w.heap.size]? = some nd0B := by
    rw [hW2, Below.heap_alloc _ _ _ (by simp)]
    exact World.alloc_heap_new w _
  have hk4 : W2.heap[w.heap.size + 1]? = some nd0B := by
    rw [hW2]
    have := World.alloc_heap_new (w.alloc nd0B) nd0B
    simpa using this
  obtain ⟨⟨a0, a1, a2, a3, a4⟩, _⟩ := nd0_blk hk3
  obtain ⟨⟨b0, b1, b2, b3, b4⟩, _⟩ := nd0_blk hk4
  have HW2 := Lib.hid hW2
  have HB := Lib.hid hb
  unfold nd0B at HW2
  unfold nd0
  clear hk3 hk4 hb hW2
  go_enter Try.func30, Try.ntmps30
  go_wp2_with (first
    | (go_at_call 60
       rw [← HW2.out]
       refine HA.out.mono ?_
       rintro e w' ⟨rfl, hw⟩
       have hw := hw.symm
       subst hw))
  go_loopw [5] (fun v wr => v = .int .i64 0 ∧ wr = W2) (fun _ _ => 0)
  case atStart => exact ⟨rfl, by trivial⟩
  case round =>
    obtain ⟨rfl, rfl⟩ := hrel
    go_wp2_with fail
    go_ret
    exact ⟨rfl, HB.out⟩
end Go.Proofs.Ytkackejipgabfaa.Char

/- A range over a function whose iterator owns blocks that are there already when it begins. -/
namespace Go.Proofs.Ytkackejipgabfaa.Char
open Go.RowKit

/-- what an iterator is to do that owns some blocks at its start: it hands over elements of the keys xs0, in this order; its own blocks O are not turned by the rounds -/
def SeqOwn0 (O0 : Nat → Prop) {α β : Type} (P : Program) (g : Nat) (lb : Array Value) (encs : α → Array Value) (key : α → β) (St : World → Prop) (xs0 : List β) (w : World) : Prop :=
  ∀ (l : Nat) (J Jx : (Nat → Prop) → List α → World → Prop) (W : World), Below w.heap.size w W →
    (∀ O pre W1, J O pre W1 → St W1) →
    (∀ O pre W1 O' W2, J O pre W1 → ItStep O W1 O' W2 → J O' pre W2) → (∀ O pre W1 O' W2, Jx O pre W1 → ItStep O W1 O' W2 → Jx O' pre W2) →
    J O0 [] W →
    (∀ O pre x W1 m, (∀ k, O k → k < W1.heap.size) → J O pre W1 → (pre ++ [x]).map key <+: xs0 → YieldAt Fence.wide m P l (encs x) W1 fun e W' =>
      W1.heap.size ≤ W'.heap.size ∧ (∀ k, O k → W'.heap[k]? = W1.heap[k]?) ∧ ((e = .returned (.bool true) ∧ J O (pre ++ [x]) W') ∨ (e = .returned (.bool false) ∧ Jx O (pre ++ [x]) W'))) →
    Calls P g (#[.func (.yield l) #[] #[]] ++ lb) W fun e W' => (∃ v, e = .returned v) ∧ ∃ O, (∀ k, O k → k < W'.heap.size) ∧ ((∃ xs, xs.map key = xs0 ∧ J O xs W') ∨ ∃ pre, pre.map key <+: xs0 ∧ Jx O pre W')
section
variable {n : Nat} {P : Program}
theorem wpIn_rangeFunc_set0 {α β : Type} {g : Operand} {ps : Array Tmp} {assign body : Code} {Q : Exit → Act → World → Prop} {a : Act} {w : World}
    {gf : Nat} {lb : Array Value} (hg : a.eval g = .func (.func gf) #[] lb) (eg : ∀ args w, (callFunc gf args).run P w = .ok (.enter gf args) w)
    (O0 : Nat → Prop) (hO0 : ∀ k, O0 k → k < w.heap.size) {encs : α → Array Value} {key : α → β} {St : World → Prop} {xs0 : List β} {w0 : World} (hseq : SeqOwn0 O0 P gf lb encs key St xs0 w0) (hb0 : Below w0.heap.size w0 w) (hps : ∀ x, (encs x).size = ps.size)
    (I : (Nat → Prop) → List α → World → Prop) (Ix : Code → (Nat → Prop) → List α → World → Prop)
    (hI : ∀ O pre W O' W', I O pre W → ItStep O W O' W' → I O' pre W') (hIx : ∀ c O pre W O' W', Ix c O pre W → ItStep O W O' W' → Ix c O' pre W')
    (hSt : ∀ O pre W, I O pre W → St W) (h0 : I O0 [] w)
    (Ax : (Nat → Prop) → α → Act → World → Prop) (hAx : ∀ O x a' W O' W', Ax O x a' W → ItStep O W O' W' → Ax O' x a' W')
    (hassign : ∀ (l m : Nat) (O : Nat → Prop) (pre : List α) (x : α) (W : World) (K : Act → World → Prop), (∀ k, O k → k < W.heap.size) → I O pre W →
      (∀ a' W', W.heap.size ≤ W'.heap.size → (∀ k, O k → W'.heap[k]? = W.heap[k]?) → I O pre W' → Ax O x a' W' → K a' W') →
      assign.wpIn (Fence.wide.inRound l) m P (Exit.then K (fun _ _ _ => False)) { tmps := (ps.zip (encs x)).foldl (fun t (p, v) => t.setIfInBounds p v) a.tmps, defers := [] } W)
    (hbody : ∀ (l m : Nat) (O : Nat → Prop) (pre : List α) (x : α) (a' : Act) (W : World), (∀ k, O k → k < W.heap.size) → I O pre W → Ax O x a' W → (pre ++ [x]).map key <+: xs0 → body.wpIn (Fence.wide.inRound l) m P (setPost O I Ix (pre ++ [x]) W) a' W)
    (hdone : ∀ (O : Nat → Prop) (xs : List α) (W : World), (∀ k, O k → k < W.heap.size) → O w.heap.size → xs.map key = xs0 → I O xs W → W.heap[w.heap.size]? = some (.deferred (some [])) → Q .normal { a with defers := { target := .collected w.heap.size, args := #[] } :: a.defers } W)
    (hstop : ∀ (O : Nat → Prop) (c : Code) (pre : List α) (W : World), (∀ k, O k → k < W.heap.size) → O w.heap.size → pre.map key <+: xs0 → Ix c O pre W → W.heap[w.heap.size]? = some (.deferred (some [])) → c.wpIn Fence.wide n P Q { a with defers := { target := .collected w.heap.size, args := #[] } :: a.defers } W) :
    (Code.rangeFunc g ps assign body).wpIn Fence.wide n P Q a w := by
  refine wpIn_rangeFunc fun fn hfn => ?_
  rw [show Fence.wide.round = none from rfl]
  obtain ⟨rec, hrec⟩ : ∃ rec : LoopState → Option Code → Loop, rec = fun st pe => { state := st, pending := pe, fn, tmps := a.tmps, params := ps, assign, body, defers := w.heap.size } := ⟨_, rfl⟩
  obtain ⟨Wc, hWc⟩ : ∃ Wc, Wc = (w.alloc (.deferred (some []))).alloc (.loop (rec .ready none)) := ⟨_, rfl⟩
  have sWc : Wc.heap.size = w.heap.size + 2 := by rw [hWc]; simp
  have bWc : Below w.heap.size w Wc := by rw [hWc]; exact ((Below.refl _ w).alloc (Nat.le_refl _) _).alloc (by simp) _
  have r1 : Wc.heap[w.heap.size + 1]? = some (.loop (rec .ready none)) := by
    rw [hWc]; have := World.alloc_heap_new (w.alloc (.deferred (some []))) (.loop (rec .ready none)); rwa [World.size_alloc] at this
  have r0 : Wc.heap[w.heap.size]? = some (.deferred (some [])) := by
    rw [hWc]; exact (Below.heap_alloc _ _ _ (by simp)).trans (World.alloc_heap_new w _)
  obtain ⟨U, hU⟩ : ∃ U : (Nat → Prop) → Nat → Prop, U = fun O k => O k ∨ k = w.heap.size ∨ k = w.heap.size + 1 := ⟨_, rfl⟩
  have uD : ∀ O, U O w.heap.size := fun O => by rw [hU]; exact .inr (.inl rfl)
  have uL : ∀ O, U O (w.heap.size + 1) := fun O => by rw [hU]; exact .inr (.inr rfl)
  have uO : ∀ O k, O k → U O k := fun O k h => by rw [hU]; exact .inl h
  have uLt : ∀ (O : Nat → Prop) (W : World), (∀ k, O k → k < W.heap.size) → w.heap.size + 1 < W.heap.size → ∀ k, U O k → k < W.heap.size := fun O W h hs k hk => by
    rw [hU] at hk
    rcases hk with hk | rfl | rfl
    · exact h k hk
    · omega
    · omega
  have uStep : ∀ (O O' : Nat → Prop) (W W' : World), w.heap.size + 1 < W.heap.size → ItStep O W O' W' → ItStep (U O) W (U O') W' := fun O O' W W' hs h => by
    have h1 := h.low.size
    refine ⟨h.low, fun k hk => ?_, fun k hk => ?_, fun k hk hn => h.keep k hk (fun ho => hn (uO _ _ ho)), uLt _ _ h.lt (by omega)⟩
    · rw [hU] at hk ⊢
      exact hk.imp (h.up k) id
    · rw [hU] at hk ⊢
      rcases hk with hk | hk
      · exact (h.new k hk).imp .inl id
      · exact .inl (.inr hk)
  have hi0 : I (U O0) [] Wc := hI _ _ _ _ _ h0 ⟨bWc.mono (Nat.zero_le _), uO _, fun k hk => by
    rw [hU] at hk
    rcases hk with hk | rfl | rfl
    · exact .inl hk
    · exact .inr (Nat.le_refl _)
    · exact .inr (by omega), fun k hk _ => bWc.block k hk, uLt _ _ (fun k h => Nat.lt_of_lt_of_le (hO0 k h) bWc.size) (by omega)⟩
  refine ⟨w.heap.size + 1, [{ target := .collected w.heap.size, args := #[] }], Wc, { target := .fn (.func gf) lb, args := #[.func (.yield (w.heap.size + 1)) #[] #[]] }, Wc, gf, #[.func (.yield (w.heap.size + 1)) #[] #[]] ++ lb, Wc, ?_, ?_, ?_, ?_, (fun h => by cases h), ?_⟩
  · rw [hWc, hrec]; exact run_enterLoop_outer _ _ _ _ _
  · simp only [resolve, hg]
    simp [go_sem]
  · exact fun _ _ => trivial
  · simp [invoke, go_sem, eg]
  · refine (callsIn_wide.2 (hseq (w.heap.size + 1) (fun O pre W => I (U O) pre W ∧ W.heap[w.heap.size + 1]? = some (.loop (rec .ready none)) ∧ W.heap[w.heap.size]? = some (.deferred (some [])) ∧ ¬ O w.heap.size ∧ ¬ O (w.heap.size + 1))
      (fun O pre W => ∃ c, Ix c (U O) pre W ∧ W.heap[w.heap.size + 1]? = some (.loop (rec .done (some c))) ∧ W.heap[w.heap.size]? = some (.deferred (some [])) ∧ ¬ O w.heap.size ∧ ¬ O (w.heap.size + 1)) Wc (hb0.trans (bWc.mono hb0.size)) (fun O pre W1 h => hSt _ _ _ h.1) ?_ ?_ ⟨hi0, r1, r0, fun h => by have := hO0 _ h; omega, fun h => by have := hO0 _ h; omega⟩ ?_)).mono ?_
    · rintro O pre W1 O' W2 ⟨i, l1, d1, n0, n1⟩ hs
      have hlt : w.heap.size + 1 < W1.heap.size := (Array.getElem?_eq_some_iff.1 l1).1
      refine ⟨hI _ _ _ _ _ i (uStep _ _ _ _ hlt hs), (hs.keep _ hlt n1).trans l1, (hs.keep _ (by omega) n0).trans d1, fun h => ?_, fun h => ?_⟩
      · rcases hs.new _ h with h | h
        · exact n0 h
        · omega
      · rcases hs.new _ h with h | h
        · exact n1 h
        · omega
    · rintro O pre W1 O' W2 ⟨c, i, l1, d1, n0, n1⟩ hs
      have hlt : w.heap.size + 1 < W1.heap.size := (Array.getElem?_eq_some_iff.1 l1).1
      refine ⟨c, hIx _ _ _ _ _ _ i (uStep _ _ _ _ hlt hs), (hs.keep _ hlt n1).trans l1, (hs.keep _ (by omega) n0).trans d1, fun h => ?_, fun h => ?_⟩
      · rcases hs.new _ h with h | h
        · exact n0 h
        · omega
      · rcases hs.new _ h with h | h
        · exact n1 h
        · omega
    · rintro O pre x Wb m hO ⟨hi, hl, hk, n0, n1⟩ hpx
      have hlt : w.heap.size + 1 < Wb.heap.size := (Array.getElem?_eq_some_iff.1 hl).1
      have hy := run_yield (P := P) (args := encs x) hl (by rw [hrec]; exact hps x)
      rw [hrec] at hy
      have hUl := uLt O Wb hO hlt
      refine ⟨fn, _, assign, body, hy, roundIn_of_wpIn hfn (hassign _ m _ pre x Wb _ hUl hi ?_)⟩
      clear hy
      intro a' W sW fW iW aW
      replace hl := (fW _ (uL _)).trans hl
      replace hk := (fW _ (uD _)).trans hk
      replace hlt : w.heap.size + 1 < W.heap.size := (Array.getElem?_eq_some_iff.1 hl).1
      have hUW : ∀ k, U O k → k < W.heap.size := fun k hk => Nat.lt_of_lt_of_le (hUl k hk) sW
      refine ⟨_, run_beginRound hl (by rw [hrec]), ?_⟩
      have hs2 : ItStep (U O) W (U O) (W.putObj (w.heap.size + 1) (.loop { rec .ready none with state := .busy })) := ItStep.put hUW (uL _) _
      have hl2 : (W.putObj (w.heap.size + 1) (.loop { rec .ready none with state := .busy })).heap[w.heap.size + 1]? = some (.loop { rec .ready none with state := .busy }) := World.putObj_heap_same hlt
      have hk2 : (W.putObj (w.heap.size + 1) (.loop { rec .ready none with state := .busy })).heap[w.heap.size]? = some (.deferred (some [])) := (World.putObj_heap_other (by omega)).trans hk
      have o2 : ∀ k, O k → (W.putObj (w.heap.size + 1) (.loop { rec .ready none with state := .busy })).heap[k]? = Wb.heap[k]? := fun k hk => (World.putObj_heap_other (fun e => n1 (by rw [← e]; exact hk))).trans (fW k (uO _ _ hk))
      have s2 : (W.putObj (w.heap.size + 1) (.loop { rec .ready none with state := .busy })).heap.size = W.heap.size := World.putObj_size ..
      refine wpIn_mono (hbody _ m _ pre x a' _ hs2.lt (hI _ _ _ _ _ iW hs2) (hAx _ _ _ _ _ _ aW hs2) hpx) ?_
      have fin : ∀ (jump : Option Code) (W3 : World), W.heap.size ≤ W3.heap.size → (∀ k, U O k → W3.heap[k]? = (W.putObj (w.heap.size + 1) (.loop { rec .ready none with state := .busy })).heap[k]?) →
          ∃ W4, (Instr.endRound (w.heap.size + 1) jump).run P W3 = .ok (.bool jump.isNone) W4 ∧ Wb.heap.size ≤ W4.heap.size ∧ (∀ k, O k → W4.heap[k]? = Wb.heap[k]?) ∧ ItStep (U O) W3 (U O) W4 ∧
          W4.heap[w.heap.size + 1]? = some (.loop (rec (if jump.isNone then .ready else .done) jump)) ∧ W4.heap[w.heap.size]? = some (.deferred (some [])) := fun jump W3 h3 f3 => by
        have hl3 := (f3 _ (uL _)).trans hl2
        have := run_endRound (P := P) jump hl3
        rw [hrec] at this
        refine ⟨_, this, by rw [World.putObj_size]; omega, fun k hk => ?_, ItStep.put (fun k hk => Nat.lt_of_lt_of_le (hUW k hk) h3) (uL _) _, ?_, (World.putObj_heap_other (by omega)).trans ((f3 _ (uD _)).trans hk2)⟩
        · exact (World.putObj_heap_other (fun e => n1 (by rw [← e]; exact hk))).trans ((f3 k (uO _ _ hk)).trans (o2 k hk))
        · rw [World.putObj_heap_same (Array.getElem?_eq_some_iff.1 hl3).1, hrec]
      rintro e a3 W3 hp
      cases e with
      | normal =>
        obtain ⟨z3, f3, i3⟩ := hp
        obtain ⟨W4, hr, z4, f4, st4, l4, d4⟩ := fin none W3 (Nat.le_trans (Nat.le_of_eq s2.symm) z3) f3
        exact ⟨_, _, hr, z4, f4, .inl ⟨rfl, hI _ _ _ _ _ i3 st4, l4, d4, n0, n1⟩⟩
      | ret =>
        obtain ⟨z3, f3, i3⟩ := hp
        obtain ⟨W4, hr, z4, f4, st4, l4, d4⟩ := fin (some .ret) W3 (Nat.le_trans (Nat.le_of_eq s2.symm) z3) f3
        exact ⟨_, _, hr, z4, f4, .inr ⟨rfl, .ret, hIx _ _ _ _ _ _ i3 st4, l4, d4, n0, n1⟩⟩
      | exit id =>
        obtain ⟨z3, f3, i3⟩ := hp
        obtain ⟨W4, hr, z4, f4, st4, l4, d4⟩ := fin (some (.exit id)) W3 (Nat.le_trans (Nat.le_of_eq s2.symm) z3) f3
        exact ⟨_, _, hr, z4, f4, .inr ⟨rfl, .exit id, hIx _ _ _ _ _ _ i3 st4, l4, d4, n0, n1⟩⟩
      | goto t =>
        obtain ⟨z3, f3, i3⟩ := hp
        obtain ⟨W4, hr, z4, f4, st4, l4, d4⟩ := fin (some (.goto t)) W3 (Nat.le_trans (Nat.le_of_eq s2.symm) z3) f3
        exact ⟨_, _, hr, z4, f4, .inr ⟨rfl, .goto t, hIx _ _ _ _ _ _ i3 st4, l4, d4, n0, n1⟩⟩
      | panic ch => exact hp.elim
      | outgrown => exact hp.elim
    · rintro e W2 ⟨⟨v, rfl⟩, O, hO, (⟨xs, hxs, hi, hl, hk, n0, n1⟩ | ⟨pre, hpre, c, hi, hl, hk, n0, n1⟩)⟩
      · have hlt : w.heap.size + 1 < W2.heap.size := (Array.getElem?_eq_some_iff.1 hl).1
        have hs := fun o => ItStep.put (uLt O W2 hO hlt) (uL O) o
        refine ⟨none, _, by have := run_endLoop (P := P) hl (by rw [hrec]; simp); rw [hrec] at this; exact this, ?_⟩
        exact hdone _ xs _ (hs _).lt (uD O) hxs (hI _ _ _ _ _ hi (hs _)) ((World.putObj_heap_other (by omega)).trans hk)
      · have hlt : w.heap.size + 1 < W2.heap.size := (Array.getElem?_eq_some_iff.1 hl).1
        have hs := fun o => ItStep.put (uLt O W2 hO hlt) (uL O) o
        refine ⟨some c, _, by have := run_endLoop (P := P) hl (by rw [hrec]; simp); rw [hrec] at this; exact this, ?_⟩
        exact hstop _ c pre _ (hs _).lt (uD O) hpre (hIx _ _ _ _ _ _ hi (hs _)) ((World.putObj_heap_other (by omega)).trans hk)
end
end Go.Proofs.Ytkackejipgabfaa.Char

/- What a view's upward hands to a loop: a node, the one that it is in, and so on. -/
namespace Go.Proofs.Ytkackejipgabfaa.Char
open Go.RowKit Go.Lib Go.Shelf
attribute [local go_sem] Oper.semAt_some

theorem al_some2 {w : World} {a : Addr} {v : Value} (ob : Obj) (h : w.cell? a = some v) : (w.alloc ob).cell? a = some v := (((Below.refl _ w).alloc (Nat.le_refl _) ob).cell (p := a) (cell_lt h)).trans h
/-- upward from a node, been having been told; fuel ends it -/
def upF (look : Int → Option Rc) : Nat → List Int → Int → Option (List Int)
  | 0, _, _ => none
  | n + 1, been, id => if id ∈ been then some [] else match look id with
    | none => some []
    | some r => (upF look n (been ++ [id]) r.pa).map (id :: ·)
set_option maxRecDepth 100000 in
set_option maxHeartbeats 2000000 in
theorem upward_any (vp : Option Addr) (id : Int) (w : World) :
    Calls Try.prog 64 #[.pointer vp, .int .i64 id] w fun e w' => e = .returned (.func (.func 92) #[] #[.pointer (some ⟨w.heap.size, 0, none⟩), .pointer (some ⟨w.heap.size + 1, 0, none⟩)]) ∧ w' = (w.alloc (.cells #[.pointer vp] 38)).alloc (.cells #[.int .i64 id] 3) := by
  have hmf : ∀ (fn : Fn) (first cap : Array Value) (w : World), (Instr.makeFunc fn first cap).run Try.prog w = .ok (.func fn first cap) w := fun _ _ _ _ => rfl
  go_enter Try.func64, Try.ntmps64
  go_wp2_with fail
  go_ret
  exact ⟨rfl, rfl⟩
/-- the loop's state: what has been told, and what is to come -/
structure UpI (m0 ix : Nat) (O : Nat → Prop) (been : List Int) (id : Int) (W : World) : Prop where
  lt : ∀ k, O k → k < W.heap.size
  om : O m0
  ox : O ix
  cx : W.heap[ix]? = some (.cells #[.int .i64 id] 3 (0, 0))
  met : ∃ D, MetI W m0 been D
theorem UpI.ne {m0 ix : Nat} {O : Nat → Prop} {been : List Int} {id : Int} {W : World} (h : UpI m0 ix O been id W) : m0 ≠ ix := fun e => by
  obtain ⟨D, hm⟩ := h.met
  obtain ⟨es, clock, q0, _⟩ := hm.own
  rw [e, h.cx] at q0
  cases q0
theorem UpI.move {m0 ix : Nat} {O : Nat → Prop} {been : List Int} {id : Int} {W : World} (h : UpI m0 ix O been id W) {O' : Nat → Prop} {W' : World} (hO : ∀ k, O k → O' k) (hlt : ∀ k, O' k → k < W'.heap.size) (hk : ∀ k, O k → W'.heap[k]? = W.heap[k]?) : UpI m0 ix O' been id W' := by
  obtain ⟨D, hm⟩ := h.met
  exact ⟨hlt, hO _ h.om, hO _ h.ox, (hk _ h.ox).trans h.cx, D, hm.move (hk _ h.om)⟩
set_option maxRecDepth 100000 in
set_option maxHeartbeats 8000000 in
theorem upward_seq {Z : Nat → Prop} {w0 : World} {vp : Option Addr} {look : Int → Option Rc} {vx ix : Nat} (HH : ThH Z w0 vp look vx) (hpw : ∀ id r, look id = some r → (Lit.int .i64 r.pa).wf = true) (id : Int) (hid : (Lit.int .i64 id).wf = true) (f : Nat) (us : List Int) (hu : upF look f [] id = some us) (hul : us.length ≤ 100000000)
    (w : World) (hix : w.heap[ix]? = some (.cells #[.int .i64 id] 3 (0, 0))) :
    SeqOwn0 (fun k => k = ix) Try.prog 92 #[.pointer (some ⟨vx, 0, none⟩), .pointer (some ⟨ix, 0, none⟩)] (fun x : Int => #[.int .i64 x]) (fun x => x) (ThS Z w0 vx) us w := by
  intro l J Jx W hW hSt hJ hJx h0 hY
  have hmk : ∀ w, (Instr.makeMap 104 none).run Try.prog w = .ok (.map (some w.heap.size)) (w.alloc (.map #[] 0)) := fun w => run_makeMap _ w
  have hdd : ∀ k : Nat, (Fence.wide.depth.isSome = true → 1 ≤ k) := fun k h => by cases h
  have hixl : ix < W.heap.size := by have := (Array.getElem?_eq_some_iff.1 hix).1; have := hW.size; omega
  have hix0 : W.heap[ix]? = some (.cells #[.int .i64 id] 3 (0, 0)) := (hW.block ix (Array.getElem?_eq_some_iff.1 hix).1).trans hix
  have H := Lib.hid HH
  have HPW := Lib.hid hpw
  have HJ := Lib.hid hJ
  have HJX := Lib.hid hJx
  have HST := Lib.hid hSt
  have HY := Lib.hid hY
  have hb1 : Below W.heap.size W (W.alloc (.map #[] 0)) := (Below.refl _ _).alloc (Nat.le_refl _) _
  have hs1 : (W.alloc (.map #[] 0)).heap.size = W.heap.size + 1 := by simp
  have HU0 : Hid (UpI W.heap.size ix (fun k => k = ix ∨ (W.heap.size ≤ k ∧ k < (W.alloc (.map #[] 0)).heap.size)) [] id (W.alloc (.map #[] 0)) ∧ J (fun k => k = ix ∨ (W.heap.size ≤ k ∧ k < (W.alloc (.map #[] 0)).heap.size)) [] (W.alloc (.map #[] 0))) := Lib.hid
    ⟨⟨fun k hk => by omega, .inr ⟨Nat.le_refl _, by omega⟩, .inl rfl, (hb1.block ix hixl).trans hix0, _, MetI.start W⟩, hJ _ _ _ _ _ h0 (ItStep.grow (fun k hk => by rw [hk]; exact hixl) hb1)⟩
  have HUF := Lib.hid hu
  clear HH hpw hJ hJx hSt hY h0 hb1 hs1 hix hix0 hu hW
  refine (callsIn_wide (n := 9)).1 ?_
  refine callsIn_of_wp Try.func92 rfl trivial ?_ rfl
  simp only [Try.ntmps92, List.size_toArray, List.length_cons, List.length_nil, Nat.reduceAdd, Nat.reduceSub, Array.replicate_succ, Array.replicate_zero, List.push_toArray, List.append_toArray, List.nil_append, List.cons_append]
  gi_wp2_with fail
  gi_loopg [] f (fun k wr => ∃ (been : List Int) (z : Int) (O : Nat → Prop) (rest : List Int), (Lit.int .i64 z).wf = true ∧ Hid (upF look k been z = some rest ∧ us = been ++ rest ∧ UpI W.heap.size ix O been z wr ∧ J O been wr))
  case atStart => exact ⟨[], id, _, us, hid, Lib.hid ⟨HUF.out, rfl, HU0.out⟩⟩
  case round =>
    obtain ⟨been, z, O, rest, hz, HK⟩ := hrel
    obtain ⟨hu, hus, hI, hj⟩ := HK.out
    have hst := HST.out _ _ _ hj
    have hzl : ∀ g, Z g ∨ g = vx → g < w0.heap.size := fun g hg => by
      rcases hg with h | h
      · exact H.out.zB g h
      · rw [h]; exact (Array.getElem?_eq_some_iff.1 H.out.vb).1
    have cv : wr.cell? ⟨vx, 0, none⟩ = some (.pointer vp) := by
      have : wr.heap[vx]? = _ := (hst.z vx (.inr rfl)).trans H.out.vb
      simp [World.cell?, this]
    have ci : wr.cell? ⟨ix, 0, none⟩ = some (.int .i64 z) := by simp [World.cell?, hI.cx]
    have hR := H.out.tell wr (fun g hg => hst.z g (.inl hg)) hst.size z hz
    have HR := Lib.hid hR
    have key : ∀ (w3 : World) (r' : Rc) (ok : Option Addr) (jk : Nat) (oa : Option Addr) (ja : Nat), Below wr.heap.size wr w3 →
        (w3.alloc (.cells #[.int .i64 r'.kd, .string (bs r'.nm), .string (bs r'.tx), .int .i64 r'.pa, .slice ok r'.ks.length jk, .slice oa r'.ats.length ja, .bool r'.gone] 34)).cell? ⟨ix, 0, none⟩ = some (.int .i64 z) ∧
        (Instr.lookup 104 (.map (some W.heap.size)) (.int .i64 z) true).run Try.prog (w3.alloc (.cells #[.int .i64 r'.kd, .string (bs r'.nm), .string (bs r'.tx), .int .i64 r'.pa, .slice ok r'.ks.length jk, .slice oa r'.ats.length ja, .bool r'.gone] 34)) = .ok (.tuple #[.agg #[], .bool (decide (z ∈ been))]) (w3.alloc (.cells #[.int .i64 r'.kd, .string (bs r'.nm), .string (bs r'.tx), .int .i64 r'.pa, .slice ok r'.ks.length jk, .slice oa r'.ats.length ja, .bool r'.gone] 34)) ∧
        ∃ O5, (∀ k, O k → O5 k) ∧ O5 w3.heap.size ∧ UpI W.heap.size ix O5 been z ((w3.alloc (.cells #[.int .i64 r'.kd, .string (bs r'.nm), .string (bs r'.tx), .int .i64 r'.pa, .slice ok r'.ks.length jk, .slice oa r'.ats.length ja, .bool r'.gone] 34)).alloc (.cells #[] 105)) ∧ J O5 been ((w3.alloc (.cells #[.int .i64 r'.kd, .string (bs r'.nm), .string (bs r'.tx), .int .i64 r'.pa, .slice ok r'.ks.length jk, .slice oa r'.ats.length ja, .bool r'.gone] 34)).alloc (.cells #[] 105)) ∧ w3.heap.size ≠ W.heap.size ∧ w3.heap.size ≠ ix ∧
        ((w3.alloc (.cells #[.int .i64 r'.kd, .string (bs r'.nm), .string (bs r'.tx), .int .i64 r'.pa, .slice ok r'.ks.length jk, .slice oa r'.ats.length ja, .bool r'.gone] 34)).alloc (.cells #[] 105)).heap[w3.heap.size]? = some (rcB (r', .slice ok r'.ks.length jk, .slice oa r'.ats.length ja)) := by
      intro w3 r' ok jk oa ja hb
      have s3 := hb.size
      obtain ⟨W4, hW4⟩ : ∃ W4, W4 = w3.alloc (.cells #[.int .i64 r'.kd, .string (bs r'.nm), .string (bs r'.tx), .int .i64 r'.pa, .slice ok r'.ks.length jk, .slice oa r'.ats.length ja, .bool r'.gone] 34) := ⟨_, rfl⟩
      rw [← hW4]
      have k4 : W4.heap[w3.heap.size]? = some (rcB (r', .slice ok r'.ks.length jk, .slice oa r'.ats.length ja)) := by rw [hW4]; exact World.alloc_heap_new w3 _
      have hs4 : W4.heap.size = w3.heap.size + 1 := by rw [hW4]; simp
      have hb4 : Below wr.heap.size wr W4 := by rw [hW4]; exact hb.alloc s3 _
      obtain ⟨W5, hW5⟩ : ∃ W5, W5 = W4.alloc (.cells #[] 105) := ⟨_, rfl⟩
      rw [← hW5]
      have hb5 : Below wr.heap.size wr W5 := by rw [hW5]; exact hb4.alloc (by omega) _
      have hs5 : W5.heap.size = w3.heap.size + 2 := by rw [hW5, World.size_alloc, hs4]
      have hg := ItStep.grow hI.lt hb5
      obtain ⟨D, hm⟩ := hI.met
      have hom := hI.lt _ hI.om
      have hox := hI.lt _ hI.ox
      refine ⟨?_, (hm.move (hb4.block _ hom)).look hz, _, fun _ q => .inl q, .inr ⟨s3, by omega⟩, hI.move (fun _ q => .inl q) hg.lt fun k hk => hb5.block k (hI.lt k hk), HJ.out _ _ _ _ _ hj hg, by omega, by omega, ?_⟩
      · have : W4.heap[ix]? = _ := (hb4.block _ hox).trans hI.cx
        simp [World.cell?, this]
      · rw [hW5, Below.heap_alloc _ _ _ (by omega)]
        exact k4
    have KEY := Lib.hid key
    have HUS := Lib.hid hus
    cases gk with
    | zero => cases hu
    | succ n =>
      rw [upF] at hu
      by_cases hb : z ∈ been
      · rw [if_pos hb] at hu
        cases hu
        have hd : decide (z ∈ been) = true := decide_eq_true hb
        rw [hd] at KEY
        clear hb hd HK hI hj hst hR key hus hzl hul HUF HU0 hixl
        gi_wp2_with (first
          | (refine ⟨trivial, ?_⟩
             gi_at_call 58
             refine (callsIn_wide.2 HR.out).mono ?_
             rintro e w3 ⟨⟨r', va, vb'⟩, rfl, x1, x2, x3⟩
             obtain ⟨ok, jk, oa, ja, e1, e2⟩ := x2.form
             dsimp only at e1 e2 x1
             subst e1 e2
             obtain ⟨ci4, hlk, O5, k1, k2, k3, k5, _⟩ := KEY.out w3 r' ok jk oa ja x3
             have K3 := Lib.hid k3
             have K5 := Lib.hid k5
             clear x1 x2 x3 k1 k2 k3 k5
             unfold rcV
             dsimp only))
        refine ⟨fun f hf => (by cases hf), ?_⟩
        gi_wp2_with fail
        refine bodyPost_ret (results_none rfl _ _ _) rfl ?_
        exact ⟨⟨_, rfl⟩, O5, K3.out.lt, .inl ⟨been, by rw [List.map_id', HUS.out, List.append_nil], K5.out⟩⟩
      · rw [if_neg hb] at hu
        have hd : decide (z ∈ been) = false := decide_eq_false hb
        rw [hd] at KEY
        cases hl : look z with
        | none =>
          rw [hl] at hu HR
          cases hu
          clear hb hd HK hI hj hst hR key hus hzl hul HUF HU0 hixl hl
          gi_wp2_with (first
            | (refine ⟨trivial, ?_⟩
               gi_at_call 58
               refine (callsIn_wide.2 HR.out).mono ?_
               rintro e w3 ⟨⟨r', va, vb'⟩, rfl, x1, x2, x3⟩
               obtain ⟨ok, jk, oa, ja, e1, e2⟩ := x2.form
               dsimp only at e1 e2 x1
               subst e1 e2
               obtain ⟨ci4, hlk, O5, k1, k2, k3, k5, _⟩ := KEY.out w3 r' ok jk oa ja x3
               have K3 := Lib.hid k3
               have K5 := Lib.hid k5
               clear x1 x2 x3 k1 k2 k3 k5
               unfold rcV
               dsimp only))
          refine ⟨fun f hf => (by cases hf), ?_⟩
          gi_wp2_with fail
          refine bodyPost_ret (results_none rfl _ _ _) rfl ?_
          exact ⟨⟨_, rfl⟩, O5, K3.out.lt, .inl ⟨been, by rw [List.map_id', HUS.out, List.append_nil], K5.out⟩⟩
        | some r =>
          rw [hl] at hu HR
          dsimp only at hu
          obtain ⟨rest', hu', hrr⟩ := Option.map_eq_some_iff.1 hu
          have hpx : List.map (fun x => x) (been ++ [z]) <+: us := by
            rw [List.map_id', hus, ← hrr]
            exact ⟨rest', by simp⟩
          have hbl : been.length ≤ 100000000 := by
            have := congrArg List.length hus
            rw [List.length_append] at this
            omega
          have HPX := Lib.hid hpx
          have HU' := Lib.hid hu'
          have HRR := Lib.hid hrr
          have HWF := Lib.hid (HPW.out z r hl)
          clear hb hd HK hI hj hst hR key hus hzl hul HUF HU0 hixl hl hu hu' hrr hpx
          gi_wp2_with fail
          refine ⟨trivial, ?_⟩
          gi_at_call 58
          refine (callsIn_wide.2 HR.out).mono ?_
          rintro e w3 ⟨⟨r', va, vb'⟩, rfl, x1, x2, x3⟩
          obtain ⟨ok, jk, oa, ja, e1, e2⟩ := x2.form
          dsimp only [Option.getD] at e1 e2 x1
          subst e1 e2 x1
          obtain ⟨ci4, hlk, O5, k1, k2, k3, k5, k6, k7, k8⟩ := KEY.out w3 r' ok jk oa ja x3
          have ci5 := al_some2 (.cells #[] 105) ci4
          obtain ⟨fn, tmps, asg, bdy, hy, hRD⟩ := HY.out O5 been z _ 8 k3.lt k5 HPX.out
          try dsimp only at hy
          have HRD := Lib.hid hRD
          have K1 := Lib.hid k1
          have K2 := Lib.hid k2
          have K3 := Lib.hid k3
          have K8 := Lib.hid k8
          have K67 := Lib.hid (And.intro k6 k7)
          clear x2 x3 k1 k2 k3 k5 k6 k7 k8 hRD
          unfold rcV
          dsimp only
          gi_wp2_with fail
          refine HRD.out.mono ?_
          rintro e W6 ⟨z6, h6, (⟨rfl, j6⟩ | ⟨rfl, x6⟩)⟩
          · have i6 := K3.out.move (O' := O5) (W' := W6) (fun _ q => q) (fun k hk => Nat.lt_of_lt_of_le (K3.out.lt k hk) z6) h6
            obtain ⟨D, hm6⟩ := i6.met
            have hne := i6.ne
            obtain ⟨W7, hrun, how, hturn⟩ := hm6.own.store law_int Try.underlying104 (by unfold maxLen; omega) (key_int hz) unitElem_mk
            have hg7 := hturn.grown
            have s7 := hg7.size
            have keep7 : ∀ g, g < W6.heap.size → g ≠ W.heap.size → W7.heap[g]? = W6.heap[g]? := fun g h1 h2 => hg7.block g h1 (fun e => h2 (by cases e; rfl))
            have ci6 : W6.cell? ⟨ix, 0, none⟩ = some (.int .i64 z) := by simp [World.cell?, i6.cx]
            have kix : W7.heap[ix]? = some (.cells #[.int .i64 z] 3 (0, 0)) := (keep7 ix (i6.lt _ i6.ox) (fun e => hne e.symm)).trans i6.cx
            have kr : W7.heap[w3.heap.size]? = some (rcB (r', .slice ok r'.ks.length jk, .slice oa r'.ats.length ja)) := (keep7 _ (i6.lt _ K2.out) K67.out.1).trans ((h6 _ K2.out).trans K8.out)
            have c3 : W7.cell? ⟨w3.heap.size, 3, none⟩ = some (.int .i64 r'.pa) := (rc_blk kr).1.2.2.2.1
            have ci7 : W7.cell? ⟨ix, 0, none⟩ = some (.int .i64 z) := by simp [World.cell?, kix]
            have f7 : W7.frozen? ⟨ix, 0, none⟩ = false := by simp [World.frozen?, kix]
            have I6 := Lib.hid i6
            have HM6 := Lib.hid hm6
            have HOW := Lib.hid how
            have HG7 := Lib.hid hg7
            have KEEP7 := Lib.hid keep7
            have KIX := Lib.hid kix
            have J6 := Lib.hid j6
            have HNE := Lib.hid hne
            clear i6 hm6 hne how hturn hg7 keep7 kix kr j6 h6 s7 ci5 ci4 hlk ci cv hy HRD
            gi_wp2_with fail
            gi_roundg n
            case measure => exact Nat.lt_succ_self n
            case rel =>
              obtain ⟨W8, hW8⟩ : ∃ W8, W8 = W7.setCell ⟨ix, 0, none⟩ (.int .i64 r'.pa) := ⟨_, rfl⟩
              have s7 := HG7.out.size
              have s8 : W8.heap.size = W7.heap.size := by rw [hW8, World.size_setCell]
              have k8 : ∀ g, g ≠ ix → W8.heap[g]? = W7.heap[g]? := fun g hg => by rw [hW8]; exact heap_set_ne (a := ⟨ix, 0, none⟩) hg
              have hlow : Below 0 W6 W8 := by rw [hW8]; exact ((Below.refl 0 W6).grown HG7.out (Nat.zero_le _) (fun _ _ => Nat.zero_le _)).setCell (p := ⟨ix, 0, none⟩) (Nat.zero_le _) _
              have hlt8 : ∀ k, (O5 k ∨ (W6.heap.size ≤ k ∧ k < W8.heap.size)) → k < W8.heap.size := fun k hk => hk.elim (fun q => by have := I6.out.lt k q; omega) And.right
              have hstep : ItStep O5 W6 (fun k => O5 k ∨ (W6.heap.size ≤ k ∧ k < W8.heap.size)) W8 :=
                ⟨hlow, fun _ q => .inl q, fun _ q => q.imp (fun q => q) And.left, fun k hk hn => (k8 k (fun e => hn (by rw [e]; exact I6.out.ox))).trans (KEEP7.out k hk (fun e => hn (by rw [e]; exact I6.out.om))), hlt8⟩
              have hcx : W8.heap[ix]? = some (.cells #[.int .i64 r'.pa] 3 (0, 0)) := by rw [hW8]; exact one_setCell KIX.out
              have hmet := (HM6.out.snoc HOW.out).move (k8 _ HNE.out)
              have hus : us = (been ++ [z]) ++ rest' := by rw [HUS.out, ← HRR.out]; simp
              have hfin : UpI W.heap.size ix (fun k => O5 k ∨ (W6.heap.size ≤ k ∧ k < W8.heap.size)) (been ++ [z]) r'.pa W8 := ⟨hlt8, .inl I6.out.om, .inl I6.out.ox, hcx, _, hmet⟩
              have hj8 := HJ.out _ _ _ _ _ J6.out hstep
              rw [hW8] at hfin hj8
              exact ⟨_, _, _, _, HWF.out, Lib.hid ⟨HU'.out, hus, hfin, hj8⟩⟩
          · gi_wp2_with fail
            refine bodyPost_ret (results_none rfl _ _ _) rfl ?_
            exact ⟨⟨_, rfl⟩, O5, fun k hk => Nat.lt_of_lt_of_le (K3.out.lt k hk) z6, .inr ⟨_, HPX.out, x6⟩⟩
end Go.Proofs.Ytkackejipgabfaa.Char

/- The walk of a view's Parents. -/
namespace Go.Proofs.Ytkackejipgabfaa.Char
open Go.RowKit Go.Lib Go.Shelf
attribute [local go_sem] Oper.semAt_some

/-- the loop of Parents -/
structure ParI (w WL : World) (vp : Option Addr) (id : Int) (O : Nat → Prop) (pre : List Int) (W : World) : Prop where
  bel : Below w.heap.size w W
  size : WL.heap.size ≤ W.heap.size
  lowO : ∀ k, O k → k = w.heap.size + 3 ∨ WL.heap.size ≤ k
  box : Col (w.heap.size + 1) WL.heap.size O (pre.filter fun x => decide (x ≠ id)) W
  ib : W.heap[w.heap.size]? = some (.cells #[.int .i64 id] 3 (0, 0))
  vb : W.heap[w.heap.size + 2]? = some (.cells #[.pointer vp] 38 (0, 0))
theorem ParI.step {w WL : World} {vp : Option Addr} {id : Int} {O O' : Nat → Prop} {pre : List Int} {W W' : World} (hw : w.heap.size + 3 < WL.heap.size) (h : ParI w WL vp id O pre W) (hs : ItStep O W O' W') : ParI w WL vp id O' pre W' := by
  have h1 := h.size
  have keep : ∀ k, k < WL.heap.size → k ≠ w.heap.size + 3 → W'.heap[k]? = W.heap[k]? := fun k hk hn => hs.keep k (by omega) (fun ho => by have := h.lowO k ho; omega)
  refine ⟨ItStep.below h.bel (Nat.le_refl _) hs (fun k ho => by have := h.lowO k ho; omega), Nat.le_trans h1 hs.low.size, fun k ho => ?_, h.box.step hs (by omega) (fun ho => by have := h.lowO _ ho; omega), (keep _ (by omega) (by omega)).trans h.ib, (keep _ (by omega) (by omega)).trans h.vb⟩
  rcases hs.new k ho with q | q
  · exact h.lowO k q
  · omega
set_option maxRecDepth 100000 in
set_option maxHeartbeats 8000000 in
theorem parents_gen {Z : Nat → Prop} {w : World} {vp : Option Addr} {look : Int → Option Rc} (h : VH Z w vp look) (hpw : ∀ id r, look id = some r → (Lit.int .i64 r.pa).wf = true) (id : Int) (hid : (Lit.int .i64 id).wf = true) (f : Nat) (us : List Int) (hu : upF look f [] id = some us) (hul : us.length ≤ 10000000) :
    Calls Try.prog 33 #[.pointer vp, .int .i64 id] w fun e w' => ∃ u, e = .returned u ∧ OwnsInt w.heap.size w' u (us.filter fun x => decide (x ≠ id)) ∧ Below w.heap.size w w' := by
  have HT := fun (W : World) => Lib.hid ((callsIn_wide (n := 19)).2 (upward_any vp id W))
  have H := Lib.hid h
  have HPW := Lib.hid hpw
  clear h hpw
  refine (callsIn_wide (n := 20)).1 ?_
  refine callsIn_of_wp_marks Try.func33 rfl trivial ?_ rfl
  simp only [Try.ntmps33, List.size_toArray, List.length_cons, List.length_nil, Nat.reduceAdd, Nat.reduceSub, Array.replicate_succ, Array.replicate_zero, List.push_toArray, List.append_toArray, List.nil_append, List.cons_append]
  gi_wp2_with (first
    | (refine ⟨trivial, ?_⟩; gi_at_call 64; refine (HT _).out.mono ?_; rintro e w' ⟨rfl, rfl⟩))
  obtain ⟨WL, hWL⟩ : ∃ WL, WL = (((w.alloc (.cells #[.int .i64 id] 3)).alloc (.cells #[.slice none 0 0] 27)).alloc (.cells #[.pointer vp] 38)).alloc (.cells #[.int .i64 id] 3) := ⟨_, rfl⟩
  rw [← hWL]
  have hB0 : Below w.heap.size w WL := by rw [hWL]; exact ((((Below.refl _ _).alloc (Nat.le_refl _) _).alloc (by simp) _).alloc (by simp <;> omega) _).alloc (by simp <;> omega) _
  have hsL : WL.heap.size = w.heap.size + 4 := by rw [hWL]; simp
  have hi0 : WL.heap[w.heap.size]? = some (.cells #[.int .i64 id] 3 (0, 0)) := by
    rw [hWL, Below.heap_alloc _ _ _ (by simp <;> omega), Below.heap_alloc _ _ _ (by simp <;> omega), Below.heap_alloc _ _ _ (by simp)]
    exact World.alloc_heap_new w _
  have hbx0 : WL.heap[w.heap.size + 1]? = some (.cells #[.slice none 0 0] 27 (0, 0)) := by
    rw [hWL, Below.heap_alloc _ _ _ (by simp <;> omega), Below.heap_alloc _ _ _ (by simp)]
    have := World.alloc_heap_new (w.alloc (.cells #[.int .i64 id] 3)) (.cells #[.slice none 0 0] 27)
    simpa using this
  have hbx : WL.cell? ⟨w.heap.size + 1, 0, none⟩ = some (.slice none 0 0) ∧ WL.frozen? ⟨w.heap.size + 1, 0, none⟩ = false := ⟨by simp [World.cell?, hbx0], by simp [World.frozen?, hbx0]⟩
  have hbv : WL.heap[w.heap.size + 2]? = some (.cells #[.pointer vp] 38 (0, 0)) := by
    rw [hWL, Below.heap_alloc _ _ _ (by simp)]
    have := World.alloc_heap_new ((w.alloc (.cells #[.int .i64 id] 3)).alloc (.cells #[.slice none 0 0] 27)) (.cells #[.pointer vp] 38)
    simpa using this
  have hbi : WL.heap[w.heap.size + 3]? = some (.cells #[.int .i64 id] 3 (0, 0)) := by
    rw [hWL]
    have := World.alloc_heap_new (((w.alloc (.cells #[.int .i64 id] 3)).alloc (.cells #[.slice none 0 0] 27)).alloc (.cells #[.pointer vp] 38)) (.cells #[.int .i64 id] 3)
    simpa using this
  have HTH := (H.out.below hB0).th hbv
  have HUL := Lib.hid hul
  clear hWL hul
  refine wpIn_rangeFunc_set0 (n := 20) (gf := 92) (lb := #[.pointer (some ⟨w.heap.size + 2, 0, none⟩), .pointer (some ⟨w.heap.size + 3, 0, none⟩)]) rfl (enters_of Try.func92 (by kernel_rfl) rfl) (fun k => k = w.heap.size + 3) (fun k hk => by omega)
    (upward_seq HTH HPW.out id hid f us hu (by have := HUL.out; omega) WL hbi) (Below.refl _ _) (fun _ => rfl)
    (fun O pre W => ParI w WL vp id O pre W) (fun _ _ _ _ => False) (fun O pre W O' W' h hs => h.step (by omega) hs) (fun _ _ _ _ _ _ h _ => h.elim) ?st ?start
    (fun _ x a' _ => a' = { tmps := #[.pointer vp, .int .i64 id, undef, .pointer (some ⟨w.heap.size, 0, none⟩), .slice none 0 0, .pointer (some ⟨w.heap.size + 1, 0, none⟩), .int .i64 x, .pointer vp, .int .i64 id, .func (.func 92) #[] #[.pointer (some ⟨w.heap.size + 2, 0, none⟩), .pointer (some ⟨w.heap.size + 3, 0, none⟩)], .int .i64 x, undef, undef, undef, undef, undef, undef, undef, undef], defers := [] })
    (fun _ _ _ _ _ _ h _ => h) ?assign ?body ?done ?stop
  case st =>
    intro O pre W hi
    refine ⟨fun g hg => ?_, hi.size⟩
    rcases hg with hg | rfl
    · have := H.out.zB g hg
      exact (hi.bel.block g this).trans (hB0.block g this).symm
    · exact hi.vb.trans hbv.symm
  case start => exact ⟨hB0, Nat.le_refl _, fun k h => .inl h, ⟨_, hbx.1, hbx.2, OwnsInt.nil _ _, fun g hg => (by cases hg)⟩, hi0, hbv⟩
  case assign =>
    rintro l m O pre x W K hO hi hK
    gi_wp2
    exact hK _ _ (Nat.le_refl _) (fun _ _ => rfl) hi rfl
  case body =>
    rintro l m O pre x a' W hO hi rfl hpx
    have hle := hpx.length_le
    rw [List.map_id', List.length_append, List.length_singleton] at hle
    have hul := HUL.out
    have c0 : W.cell? ⟨w.heap.size, 0, none⟩ = some (.int .i64 id) := by simp [World.cell?, hi.ib]
    have hfl := List.length_filter_le (fun x => decide (x ≠ id)) pre
    obtain ⟨v, k3, k4, k6, k7⟩ := hi.box
    obtain ⟨zs, hzs⟩ : ∃ zs, pre.filter (fun x => decide (x ≠ id)) = zs := ⟨_, rfl⟩
    rw [hzs] at k6 hfl
    obtain ⟨o, j, rfl⟩ := k6.form
    have HI := Lib.hid hi
    have HK6 := Lib.hid k6
    have HK7 := Lib.hid k7
    have HO := Lib.hid hO
    have HZS := Lib.hid hzs
    have hz := hi.size
    have hzl : zs.length + 1 ≤ 10000001 := by omega
    clear hpx hi k6 k7 hO hzs hle hfl hul
    by_cases hx : x = id
    · have k1 : (x != id) = false := by simp [hx]
      have hf : (pre ++ [x]).filter (fun x => decide (x ≠ id)) = pre.filter (fun x => decide (x ≠ id)) := by rw [List.filter_append, List.filter_cons_of_neg (by simp [hx]), List.filter_nil, List.append_nil]
      have HF := Lib.hid hf
      clear hf hx
      gi_wp2_with fail
      exact ⟨Nat.le_refl _, fun _ _ => rfl, HI.out.bel, HI.out.size, HI.out.lowO, by rw [HF.out]; exact HI.out.box, HI.out.ib, HI.out.vb⟩
    · have k1 : (x != id) = true := by simp [hx]
      have hf : (pre ++ [x]).filter (fun x => decide (x ≠ id)) = zs ++ [x] := by rw [List.filter_append, List.filter_cons_of_pos (by simp [hx]), List.filter_nil, HZS.out]
      have HF := Lib.hid hf
      clear hf hx
      gi_wp2_with (first
        | (refine wpListIn_pushInt WL.heap.size rfl (.tmp 14) (.tmp 16) rfl x HK6.out rfl rfl (by omega) (by omega) ?_
           intro v' w1 q1 q2 q3 q4 q5
           have c1 := (World.cell?_of_block (w := W) (w' := w1) (a := ⟨w.heap.size + 1, 0, none⟩) (q3 _ (by show w.heap.size + 1 < _; omega) (fun e => by have := (HK6.out.blk e.symm).1; simp at this; omega))).trans k3
           have c2 := (World.frozen?_of_block (w := W) (w' := w1) (a := ⟨w.heap.size + 1, 0, none⟩) (q3 _ (by show w.heap.size + 1 < _; omega) (fun e => by have := (HK6.out.blk e.symm).1; simp at this; omega))).trans k4
           obtain ⟨o2, j2, rfl⟩ := q1.form
           have Q1 := Lib.hid q1
           have Q2 := Lib.hid q2
           have Q3 := Lib.hid q3
           have Q4 := Lib.hid q4
           rw [show (zs ++ [x]).length = zs.length + 1 by simp]
           clear q1 q2 q3 q4)
        | fail)
      obtain ⟨p1, p2⟩ := Col.push (O := O) (zs := zs) (W := W) (v := .slice o zs.length j) (z := x) (show w.heap.size + 1 < WL.heap.size by omega) HK7.out HO.out c1 c2 Q1.out Q3.out Q4.out
      rw [show (zs ++ [x]).length = zs.length + 1 by simp] at p1 p2
      have hne : ∀ k, O k → k ≠ w.heap.size + 1 := fun k hk => by have := HI.out.lowO k hk; omega
      refine ⟨by rw [World.size_setCell]; exact q5, fun k hk => p2 k (HO.out k hk) (hne k hk) (fun e => HK7.out k e hk), ?_, by rw [World.size_setCell]; omega, HI.out.lowO, ?_, (p2 w.heap.size (by omega) (by omega) (fun e => by have := (HK6.out.blk e).1; omega)).trans HI.out.ib, (p2 (w.heap.size + 2) (by omega) (by omega) (fun e => by have := (HK6.out.blk e).1; omega)).trans HI.out.vb⟩
      · exact (HI.out.bel.trans (Q2.out.mono (by omega))).setCell (p := ⟨w.heap.size + 1, 0, none⟩) (by show w.heap.size ≤ w.heap.size + 1; omega) _
      · rw [HF.out]
        exact p1
  case done =>
    rintro O xs W hO hD hxs hi hK
    obtain ⟨v, k3, k4, k6, k7⟩ := hi.box
    rw [List.map_id'] at hxs
    rw [hxs] at k6
    obtain ⟨zs, hzs⟩ : ∃ zs, us.filter (fun x => decide (x ≠ id)) = zs := ⟨_, rfl⟩
    rw [hzs] at k6
    have HZ := Lib.hid hzs
    clear hzs
    obtain ⟨o, j, rfl⟩ := k6.form
    have HK6 := Lib.hid k6
    have HK7 := Lib.hid k7
    have HI := Lib.hid hi
    clear hi k6 k7
    gi_wp2
    refine ⟨by simp, .inl ⟨_, _, rfl, run_takeDeferred hK, ?_⟩⟩
    exact ⟨_, results_tmp rfl _ _ _, _, rfl, by rw [HZ.out]; exact (HK6.out.keep fun g hg => World.putObj_heap_other (fun e => HK7.out g hg (by rw [e]; exact hD))).weak (B' := w.heap.size) (B := WL.heap.size) (by omega), below_putObj HI.out.bel (by show w.heap.size ≤ WL.heap.size; omega) _⟩
  case stop => rintro O c pre W _ _ _ h _; exact h.elim
end Go.Proofs.Ytkackejipgabfaa.Char

/- The walk of the document's own Same (by gen_refsame.py). -/
namespace Go.Proofs.Ytkackejipgabfaa.Char
open Go.RowKit Go.Lib

theorem same_def (a b : Rc) : decide (a = b) = (decide (a.kd = b.kd) && decide (a.nm = b.nm) && decide (a.tx = b.tx) && decide (a.pa = b.pa) && decide (a.gone = b.gone) && decide (a.ks = b.ks) && decide (a.ats = b.ats)) := by
  obtain ⟨a1, a2, a3, a4, a5, a6, a7⟩ := a
  obtain ⟨b1, b2, b3, b4, b5, b6, b7⟩ := b
  rw [Bool.eq_iff_iff]
  simp only [decide_eq_true_eq, Bool.and_eq_true, Rc.mk.injEq]
  constructor
  · rintro ⟨h1, h2, h3, h4, h5, h6, h7⟩; exact ⟨⟨⟨⟨⟨⟨h1, h2⟩, h3⟩, h4⟩, h7⟩, h5⟩, h6⟩
  · rintro ⟨⟨⟨⟨⟨⟨h1, h2⟩, h3⟩, h4⟩, h7⟩, h5⟩, h6⟩; exact ⟨h1, h2, h3, h4, h5, h6, h7⟩
set_option maxRecDepth 100000 in
set_option maxHeartbeats 8000000 in
theorem refSame_any (a b : Rc) (ok : Option Addr) (jk : Nat) (oa : Option Addr) (ja : Nat) (pk : Option Addr) (lk : Nat) (pa : Option Addr) (la : Nat) (w : World) (F G : Nat → Prop) (hk : IntsOn w F (.slice ok a.ks.length jk) a.ks) (ha : IntsOn w F (.slice oa a.ats.length ja) a.ats)
    (hk' : IntsOn w G (.slice pk b.ks.length lk) b.ks) (ha' : IntsOn w G (.slice pa b.ats.length la) b.ats) (hz : a.ks.length ≤ 2 ^ 62) (hz2 : a.ats.length ≤ 2 ^ 62) :
    Calls Try.prog 29 #[.agg #[.int .i64 a.kd, .string (bs a.nm), .string (bs a.tx), .int .i64 a.pa, .slice ok a.ks.length jk, .slice oa a.ats.length ja, .bool a.gone], .agg #[.int .i64 b.kd, .string (bs b.nm), .string (bs b.tx), .int .i64 b.pa, .slice pk b.ks.length lk, .slice pa b.ats.length la, .bool b.gone]] w fun e w' => e = .returned (.bool (decide (a = b))) ∧ Below w.heap.size w w' := by
  obtain ⟨W1, hW1⟩ : ∃ W1, W1 = (w.alloc (.cells #[.int .i64 a.kd, .string (bs a.nm), .string (bs a.tx), .int .i64 a.pa, .slice ok a.ks.length jk, .slice oa a.ats.length ja, .bool a.gone] 34)).alloc (.cells #[.int .i64 b.kd, .string (bs b.nm), .string (bs b.tx), .int .i64 b.pa, .slice pk b.ks.length lk, .slice pa b.ats.length la, .bool b.gone] 34) := ⟨_, rfl⟩
  have hb1 : Below w.heap.size w W1 := by rw [hW1]; exact ((Below.refl _ _).alloc (Nat.le_refl _) _).alloc (by simp) _
  have mv : ∀ n b, b < w.heap.size → (W1.drewN n).heap[b]? = w.heap[b]? := fun n b hb => hb1.block b hb
  have HK := Lib.hid (fun n => ints_any a.ks b.ks F G ok jk pk lk (W1.drewN n) hz (hk.move fun b hb hF => ⟨hF, mv n b hb⟩) (hk'.move fun b hb hF => ⟨hF, mv n b hb⟩))
  have HA := Lib.hid (fun n => ints_any a.ats b.ats F G oa ja pa la (W1.drewN n) hz2 (ha.move fun b hb hF => ⟨hF, mv n b hb⟩) (ha'.move fun b hb hF => ⟨hF, mv n b hb⟩))
  have hbk : W1.heap[w.heap.size]? = some (.cells #[.int .i64 a.kd, .string (bs a.nm), .string (bs a.tx), .int .i64 a.pa, .slice ok a.ks.length jk, .slice oa a.ats.length ja, .bool a.gone] 34 (0, 0)) := by rw [hW1, Below.heap_alloc _ _ _ (by simp)]; exact World.alloc_heap_new w _
  have hbl : W1.heap[w.heap.size + 1]? = some (.cells #[.int .i64 b.kd, .string (bs b.nm), .string (bs b.tx), .int .i64 b.pa, .slice pk b.ks.length lk, .slice pa b.ats.length la, .bool b.gone] 34 (0, 0)) := by rw [hW1]; have := World.alloc_heap_new (w.alloc (.cells #[.int .i64 a.kd, .string (bs a.nm), .string (bs a.tx), .int .i64 a.pa, .slice ok a.ks.length jk, .slice oa a.ats.length ja, .bool a.gone] 34)) (.cells #[.int .i64 b.kd, .string (bs b.nm), .string (bs b.tx), .int .i64 b.pa, .slice pk b.ks.length lk, .slice pa b.ats.length la, .bool b.gone] 34); simpa using this
  have z0 : ∀ n, (W1.drewN n).cell? ⟨w.heap.size, 0, none⟩ = some (.int .i64 a.kd) := fun n => by show W1.cell? _ = _; simp [World.cell?, hbk]
  have z1 : ∀ n, (W1.drewN n).cell? ⟨w.heap.size, 1, none⟩ = some (.string (bs a.nm)) := fun n => by show W1.cell? _ = _; simp [World.cell?, hbk]
  have z2 : ∀ n, (W1.drewN n).cell? ⟨w.heap.size, 2, none⟩ = some (.string (bs a.tx)) := fun n => by show W1.cell? _ = _; simp [World.cell?, hbk]
  have z3 : ∀ n, (W1.drewN n).cell? ⟨w.heap.size, 3, none⟩ = some (.int .i64 a.pa) := fun n => by show W1.cell? _ = _; simp [World.cell?, hbk]
  have z4 : ∀ n, (W1.drewN n).cell? ⟨w.heap.size, 4, none⟩ = some (.slice ok a.ks.length jk) := fun n => by show W1.cell? _ = _; simp [World.cell?, hbk]
  have z5 : ∀ n, (W1.drewN n).cell? ⟨w.heap.size, 5, none⟩ = some (.slice oa a.ats.length ja) := fun n => by show W1.cell? _ = _; simp [World.cell?, hbk]
  have z6 : ∀ n, (W1.drewN n).cell? ⟨w.heap.size, 6, none⟩ = some (.bool a.gone) := fun n => by show W1.cell? _ = _; simp [World.cell?, hbk]
  have y0 : ∀ n, (W1.drewN n).cell? ⟨w.heap.size + 1, 0, none⟩ = some (.int .i64 b.kd) := fun n => by show W1.cell? _ = _; simp [World.cell?, hbl]
  have y1 : ∀ n, (W1.drewN n).cell? ⟨w.heap.size + 1, 1, none⟩ = some (.string (bs b.nm)) := fun n => by show W1.cell? _ = _; simp [World.cell?, hbl]
  have y2 : ∀ n, (W1.drewN n).cell? ⟨w.heap.size + 1, 2, none⟩ = some (.string (bs b.tx)) := fun n => by show W1.cell? _ = _; simp [World.cell?, hbl]
  have y3 : ∀ n, (W1.drewN n).cell? ⟨w.heap.size + 1, 3, none⟩ = some (.int .i64 b.pa) := fun n => by show W1.cell? _ = _; simp [World.cell?, hbl]
  have y4 : ∀ n, (W1.drewN n).cell? ⟨w.heap.size + 1, 4, none⟩ = some (.slice pk b.ks.length lk) := fun n => by show W1.cell? _ = _; simp [World.cell?, hbl]
  have y5 : ∀ n, (W1.drewN n).cell? ⟨w.heap.size + 1, 5, none⟩ = some (.slice pa b.ats.length la) := fun n => by show W1.cell? _ = _; simp [World.cell?, hbl]
  have y6 : ∀ n, (W1.drewN n).cell? ⟨w.heap.size + 1, 6, none⟩ = some (.bool b.gone) := fun n => by show W1.cell? _ = _; simp [World.cell?, hbl]
  have HB1 := Lib.hid hb1
  have HW1 := Lib.hid hW1
  have HZ := Lib.hid (And.intro (And.intro z4 z5) (And.intro y4 y5))
  clear hW1 hb1 mv hbk hbl hk ha hk' ha'
  have hdef := same_def a b
  obtain ⟨R, hR⟩ : ∃ R, decide (a = b) = R := ⟨_, rfl⟩
  rw [hR] at hdef ⊢
  clear hR
  have x0 := z0 0
  have q0 := y0 0
  have x1 := z1 0
  have q1 := y1 0
  have x2 := z2 0
  have q2 := y2 0
  have x3 := z3 0
  have q3 := y3 0
  have x4 := z4 0
  have q4 := y4 0
  have x5 := z5 0
  have q5 := y5 0
  have x6 := z6 0
  have q6 := y6 0
  clear z0 z1 z2 z3 z4 z5 z6 y0 y1 y2 y3 y4 y5 y6
  change W1.cell? _ = _ at x0
  change W1.cell? _ = _ at q0
  change W1.cell? _ = _ at x1
  change W1.cell? _ = _ at q1
  change W1.cell? _ = _ at x2
  change W1.cell? _ = _ at q2
  change W1.cell? _ = _ at x3
  change W1.cell? _ = _ at q3
  change W1.cell? _ = _ at x4
  change W1.cell? _ = _ at q4
  change W1.cell? _ = _ at x5
  change W1.cell? _ = _ at q5
  change W1.cell? _ = _ at x6
  change W1.cell? _ = _ at q6
  by_cases h0 : a.kd = b.kd
  · rw [decide_eq_true h0] at hdef
    have k0 : (a.kd == b.kd) = true := by rw [h0, beq_self_eq_true]
    clear h0
    by_cases h1 : a.nm = b.nm
    · rw [decide_eq_true h1] at hdef
      have k1 : ((bs a.nm).toList == (bs b.nm).toList) = true := by rw [bs_tl, bs_tl]; rw [h1, beq_self_eq_true]
      clear h1
      by_cases h2 : a.tx = b.tx
      · rw [decide_eq_true h2] at hdef
        have k2 : ((bs a.tx).toList == (bs b.tx).toList) = true := by rw [bs_tl, bs_tl]; rw [h2, beq_self_eq_true]
        clear h2
        by_cases h3 : a.pa = b.pa
        · rw [decide_eq_true h3] at hdef
          have k3 : (a.pa == b.pa) = true := by rw [h3, beq_self_eq_true]
          clear h3
          by_cases h4 : a.gone = b.gone
          · rw [decide_eq_true h4] at hdef
            have k4 : (a.gone == b.gone) = true := by rw [h4, beq_self_eq_true]
            clear h4
            cases hks : decide (a.ks = b.ks) with
            | true =>
              rw [hks] at hdef
              cases has : decide (a.ats = b.ats) with
              | true =>
                rw [has] at hdef
                have HD := Lib.hid hdef
                clear hdef
                go_enter Try.func29, Try.ntmps29
                go_wp2_with fail
                rw [← HW1.out]
                refine (HK.out 0).mono ?_
                rintro e w1 ⟨rfl, n, rfl⟩
                rw [hks]
                rw [World.drewN_drewN, Nat.zero_add]
                have x4 := HZ.out.1.1 n
                have x5 := HZ.out.1.2 n
                have q4 := HZ.out.2.1 n
                have q5 := HZ.out.2.2 n
                go_wp2_with fail
                refine (HA.out n).mono ?_
                rintro e w1 ⟨rfl, m, rfl⟩
                rw [has]
                go_wp2_with fail
                go_ret
                exact ⟨by rw [HD.out]; rfl, HB1.out.trans (below_drewN _ _ _)⟩
              | false =>
                rw [has] at hdef
                have HD := Lib.hid hdef
                clear hdef
                go_enter Try.func29, Try.ntmps29
                go_wp2_with fail
                rw [← HW1.out]
                refine (HK.out 0).mono ?_
                rintro e w1 ⟨rfl, n, rfl⟩
                rw [hks]
                rw [World.drewN_drewN, Nat.zero_add]
                have x4 := HZ.out.1.1 n
                have x5 := HZ.out.1.2 n
                have q4 := HZ.out.2.1 n
                have q5 := HZ.out.2.2 n
                go_wp2_with fail
                refine (HA.out n).mono ?_
                rintro e w1 ⟨rfl, m, rfl⟩
                rw [has]
                go_wp2_with fail
                go_ret
                exact ⟨by rw [HD.out]; rfl, HB1.out.trans (below_drewN _ _ _)⟩
            | false =>
              rw [hks] at hdef
              have HD := Lib.hid hdef
              clear hdef
              go_enter Try.func29, Try.ntmps29
              go_wp2_with fail
              rw [← HW1.out]
              refine (HK.out 0).mono ?_
              rintro e w1 ⟨rfl, n, rfl⟩
              rw [hks]
              go_wp2_with fail
              go_ret
              exact ⟨by rw [HD.out]; rfl, HB1.out.trans (below_drewN _ _ _)⟩
          · rw [decide_eq_false h4] at hdef
            have k4 : (a.gone == b.gone) = false := beq_eq_false_iff_ne.2 h4
            clear h4
            have HD := Lib.hid hdef
            clear hdef
            go_enter Try.func29, Try.ntmps29
            go_wp2_with fail
            go_ret
            exact ⟨by rw [HD.out]; rfl, by rw [← HW1.out]; exact HB1.out⟩
        · rw [decide_eq_false h3] at hdef
          have k3 : (a.pa == b.pa) = false := beq_eq_false_iff_ne.2 h3
          clear h3
          have HD := Lib.hid hdef
          clear hdef
          go_enter Try.func29, Try.ntmps29
          go_wp2_with fail
          go_ret
          exact ⟨by rw [HD.out]; rfl, by rw [← HW1.out]; exact HB1.out⟩
      · rw [decide_eq_false h2] at hdef
        have k2 : ((bs a.tx).toList == (bs b.tx).toList) = false := by rw [bs_tl, bs_tl]; exact beq_eq_false_iff_ne.2 h2
        clear h2
        have HD := Lib.hid hdef
        clear hdef
        go_enter Try.func29, Try.ntmps29
        go_wp2_with fail
        go_ret
        exact ⟨by rw [HD.out]; rfl, by rw [← HW1.out]; exact HB1.out⟩
    · rw [decide_eq_false h1] at hdef
      have k1 : ((bs a.nm).toList == (bs b.nm).toList) = false := by rw [bs_tl, bs_tl]; exact beq_eq_false_iff_ne.2 h1
      clear h1
      have HD := Lib.hid hdef
      clear hdef
      go_enter Try.func29, Try.ntmps29
      go_wp2_with fail
      go_ret
      exact ⟨by rw [HD.out]; rfl, by rw [← HW1.out]; exact HB1.out⟩
  · rw [decide_eq_false h0] at hdef
    have k0 : (a.kd == b.kd) = false := beq_eq_false_iff_ne.2 h0
    clear h0
    have HD := Lib.hid hdef
    clear hdef
    go_enter Try.func29, Try.ntmps29
    go_wp2_with fail
    go_ret
    exact ⟨by rw [HD.out]; rfl, by rw [← HW1.out]; exact HB1.out⟩
end Go.Proofs.Ytkackejipgabfaa.Char
