/- EachV RangeOwn -/
import Derived.Test.YtkackejipgabfaaPk00
import Derived.Shelf.Abstract
import Derived.RangeFuncNested
import Derived.RangeFuncWrites
import Derived.Test.YtkackejipgabfaaProg
/- The walks of each, and of what it calls, at a function that turns memory. -/
namespace Go.Proofs.Ytkackejipgabfaa.Char
open Go.RowKit Go.Lib

def eachF (tb : Nat) : Value := .func (.func 109) #[] #[.pointer (some ⟨tb, 0, none⟩)]
section
variable (tb : Nat) (zs : List Int) (o : Option Addr) (j : Nat) (I : Nat → World → Prop) (X : World → Prop)
set_option maxRecDepth 100000 in
set_option maxHeartbeats 4000000 in
theorem idx_any (hr : ∀ k W, I k W → IntsOn W (fun _ => True) (.slice o zs.length j) zs) (hl : zs.length ≤ 2 ^ 62)
    (hs : ∀ k (h : k < zs.length) W, I k W → Calls Try.prog 109 #[.int .i64 zs[k], .pointer (some ⟨tb, 0, none⟩)] W fun e W' => (e = .returned (.bool false) ∧ I (k + 1) W') ∨ (e = .returned (.bool true) ∧ X W')) (W : World) (h0 : I 0 W) :
    Calls Try.prog 123 #[.slice o zs.length j, eachF tb] W fun e W' => (e = .returned (.int .i64 (-1)) ∧ I zs.length W') ∨ (∃ k : Nat, e = .returned (.int .i64 (k : Int)) ∧ X W') := by
  have HR := Lib.hid hr
  have HS := Lib.hid hs
  have H0 := Lib.hid h0
  have eF := enters_of Try.func109 (by kernel_rfl) rfl
  clear hr hs h0
  unfold eachF
  go_enter Try.func123, Try.ntmps123
  go_wp2_with fail
  go_loopw [8] (fun v wr => ∃ k : Nat, v = .int .i64 (k : Int) ∧ k ≤ zs.length ∧ Hid (I k wr)) (fun v _ => zs.length - (RowKit.intOf v).toNat)
  case atStart => exact ⟨0, rfl, Nat.zero_le _, H0⟩
  case round =>
    obtain ⟨k, rfl, hk, HI⟩ := hrel
    by_cases hlt : k < zs.length
    · obtain ⟨g, off, rfl, _, c0⟩ := (HR.out _ _ HI.out).reads k hlt
      have hC := HS.out k hlt wr HI.out
      have HC := Lib.hid hC
      have hz0 : (0 : Int) ≤ (k : Int) := by omega
      have hz1 : (k : Int) < (zs.length : Int) := by omega
      clear hC HI
      generalize zs[k] = z at *
      go_wp2_with (first
        | (go_at_call 109
           refine HC.out.mono ?_
           rintro e w2 (⟨rfl, i2⟩ | ⟨rfl, x2⟩)))
      · have HI2 := Lib.hid i2
        clear i2
        go_wp2_with fail
        go_roundw
        case rel => exact ⟨k + 1, by go_num, by omega, HI2⟩
        case measure => simp [RowKit.intOf]; omega
      · go_wp2_with fail
        go_ret
        exact .inr ⟨k, rfl, x2⟩
    · have e : k = zs.length := by omega
      subst e
      go_wp2_with fail
      go_ret
      exact .inl ⟨rfl, HI.out⟩
set_option maxRecDepth 100000 in
set_option maxHeartbeats 4000000 in
theorem cont_any (hr : ∀ k W, I k W → IntsOn W (fun _ => True) (.slice o zs.length j) zs) (hl : zs.length ≤ 2 ^ 62)
    (hs : ∀ k (h : k < zs.length) W, I k W → Calls Try.prog 109 #[.int .i64 zs[k], .pointer (some ⟨tb, 0, none⟩)] W fun e W' => (e = .returned (.bool false) ∧ I (k + 1) W') ∨ (e = .returned (.bool true) ∧ X W')) (W : World) (h0 : I 0 W) :
    Calls Try.prog 108 #[.slice o zs.length j, eachF tb] W fun e W' => (e = .returned (.bool false) ∧ I zs.length W') ∨ (e = .returned (.bool true) ∧ X W') := by
  have HC := Lib.hid (idx_any tb zs o j I X hr hl hs W h0)
  clear hr hs h0
  unfold eachF at HC ⊢
  go_enter Try.func108, Try.ntmps108
  go_wp2_with (first
    | (go_at_call 123
       refine HC.out.mono ?_
       rintro e w2 (⟨rfl, i2⟩ | ⟨k, rfl, x2⟩)))
  · have HI := Lib.hid i2
    clear i2
    go_wp2_with fail
    go_ret
    exact .inl ⟨rfl, HI.out⟩
  · have HX := Lib.hid x2
    have hz0 : (0 : Int) ≤ (k : Int) := by omega
    clear x2
    go_wp2_with fail
    go_ret
    exact .inr ⟨rfl, HX.out⟩
end
set_option maxRecDepth 100000 in
set_option maxHeartbeats 4000000 in
theorem each1_1 (ab : Nat) (z : Int) (tb : Nat) (W : World) (hb : W.cell? ⟨tb, 0, none⟩ = some (.func (.func 81) #[] #[.pointer (some ⟨ab, 0, none⟩)])) {R : Bool → World → Prop}
    (hC : Calls Try.prog 81 #[.int .i64 z, .pointer (some ⟨ab, 0, none⟩)] W fun e W' => ∃ c, e = .returned (.bool c) ∧ R c W') :
    Calls Try.prog 109 #[.int .i64 z, .pointer (some ⟨tb, 0, none⟩)] W fun e W' => ∃ c, e = .returned (.bool !c) ∧ R c W' := by
  have HC := Lib.hid hC
  have eF := enters_of Try.func81 (by kernel_rfl) rfl
  clear hC
  go_enter Try.func109, Try.ntmps109
  go_wp2_with (first
    | (go_at_call 81
       refine HC.out.mono ?_
       rintro e w2 ⟨c, rfl, r2⟩
       have HR2 := Lib.hid r2
       clear r2))
  go_ret
  exact ⟨c, rfl, HR2.out⟩
set_option maxRecDepth 100000 in
set_option maxHeartbeats 4000000 in
theorem each_1 (ab : Nat) (zs : List Int) (o : Option Addr) (j : Nat) (I : Nat → World → Prop) (X : World → Prop) (W : World)
    (hr : ∀ k W', I k W' → IntsOn W' (fun _ => True) (.slice o zs.length j) zs) (hl : zs.length ≤ 2 ^ 62) (hb : ∀ k W', I k W' → W'.cell? ⟨W.heap.size, 0, none⟩ = some (.func (.func 81) #[] #[.pointer (some ⟨ab, 0, none⟩)]))
    (hs : ∀ k (h : k < zs.length) W', I k W' → Calls Try.prog 81 #[.int .i64 zs[k], .pointer (some ⟨ab, 0, none⟩)] W' fun e W'' => (e = .returned (.bool true) ∧ I (k + 1) W'') ∨ (e = .returned (.bool false) ∧ X W''))
    (h0 : I 0 (W.alloc (.cells #[.func (.func 81) #[] #[.pointer (some ⟨ab, 0, none⟩)]] 83))) :
    Calls Try.prog 80 #[.slice o zs.length j, .func (.func 81) #[] #[.pointer (some ⟨ab, 0, none⟩)]] W fun e W' => (e = .returned (.bool true) ∧ I zs.length W') ∨ (e = .returned (.bool false) ∧ X W') := by
  have HC := Lib.hid (cont_any W.heap.size zs o j I X hr hl (fun k h W' i => (each1_1 ab (zs[k]) W.heap.size W' (hb k W' i) (R := fun c W'' => (c = true ∧ I (k + 1) W'') ∨ (c = false ∧ X W'')) ((hs k h W' i).mono fun e W'' q => q.elim (fun q => ⟨true, q.1, .inl ⟨rfl, q.2⟩⟩) (fun q => ⟨false, q.1, .inr ⟨rfl, q.2⟩⟩))).mono fun e W'' ⟨c, he, q⟩ => q.elim (fun q => .inl ⟨by rw [he, q.1]; rfl, q.2⟩) (fun q => .inr ⟨by rw [he, q.1]; rfl, q.2⟩)) _ h0)
  have hmf : ∀ (fn : Fn) (first cap : Array Value) (w : World), (Instr.makeFunc fn first cap).run Try.prog w = .ok (.func fn first cap) w := fun _ _ _ _ => rfl
  clear hr hb hs h0
  unfold eachF at HC
  go_enter Try.func80, Try.ntmps80
  go_wp2_with (first
    | (go_at_call 108
       refine HC.out.mono ?_
       rintro e w2 (⟨rfl, i2⟩ | ⟨rfl, x2⟩)))
  · have HI := Lib.hid i2
    clear i2
    go_wp2_with fail
    go_ret
    exact .inl ⟨rfl, HI.out⟩
  · have HX := Lib.hid x2
    clear x2
    go_wp2_with fail
    go_ret
    exact .inr ⟨rfl, HX.out⟩
set_option maxRecDepth 100000 in
set_option maxHeartbeats 4000000 in
theorem each1_2 (ab xb : Nat) (z : Int) (tb : Nat) (W : World) (hb : W.cell? ⟨tb, 0, none⟩ = some (.func (.func 82) #[] #[.pointer (some ⟨ab, 0, none⟩), .pointer (some ⟨xb, 0, none⟩)])) {R : Bool → World → Prop}
    (hC : Calls Try.prog 82 #[.int .i64 z, .pointer (some ⟨ab, 0, none⟩), .pointer (some ⟨xb, 0, none⟩)] W fun e W' => ∃ c, e = .returned (.bool c) ∧ R c W') :
    Calls Try.prog 109 #[.int .i64 z, .pointer (some ⟨tb, 0, none⟩)] W fun e W' => ∃ c, e = .returned (.bool !c) ∧ R c W' := by
  have HC := Lib.hid hC
  have eF := enters_of Try.func82 (by kernel_rfl) rfl
  clear hC
  go_enter Try.func109, Try.ntmps109
  go_wp2_with (first
    | (go_at_call 82
       refine HC.out.mono ?_
       rintro e w2 ⟨c, rfl, r2⟩
       have HR2 := Lib.hid r2
       clear r2))
  go_ret
  exact ⟨c, rfl, HR2.out⟩
set_option maxRecDepth 100000 in
set_option maxHeartbeats 4000000 in
theorem each_2 (ab xb : Nat) (zs : List Int) (o : Option Addr) (j : Nat) (I : Nat → World → Prop) (X : World → Prop) (W : World)
    (hr : ∀ k W', I k W' → IntsOn W' (fun _ => True) (.slice o zs.length j) zs) (hl : zs.length ≤ 2 ^ 62) (hb : ∀ k W', I k W' → W'.cell? ⟨W.heap.size, 0, none⟩ = some (.func (.func 82) #[] #[.pointer (some ⟨ab, 0, none⟩), .pointer (some ⟨xb, 0, none⟩)]))
    (hs : ∀ k (h : k < zs.length) W', I k W' → Calls Try.prog 82 #[.int .i64 zs[k], .pointer (some ⟨ab, 0, none⟩), .pointer (some ⟨xb, 0, none⟩)] W' fun e W'' => (e = .returned (.bool true) ∧ I (k + 1) W'') ∨ (e = .returned (.bool false) ∧ X W''))
    (h0 : I 0 (W.alloc (.cells #[.func (.func 82) #[] #[.pointer (some ⟨ab, 0, none⟩), .pointer (some ⟨xb, 0, none⟩)]] 83))) :
    Calls Try.prog 80 #[.slice o zs.length j, .func (.func 82) #[] #[.pointer (some ⟨ab, 0, none⟩), .pointer (some ⟨xb, 0, none⟩)]] W fun e W' => (e = .returned (.bool true) ∧ I zs.length W') ∨ (e = .returned (.bool false) ∧ X W') := by
  have HC := Lib.hid (cont_any W.heap.size zs o j I X hr hl (fun k h W' i => (each1_2 ab xb (zs[k]) W.heap.size W' (hb k W' i) (R := fun c W'' => (c = true ∧ I (k + 1) W'') ∨ (c = false ∧ X W'')) ((hs k h W' i).mono fun e W'' q => q.elim (fun q => ⟨true, q.1, .inl ⟨rfl, q.2⟩⟩) (fun q => ⟨false, q.1, .inr ⟨rfl, q.2⟩⟩))).mono fun e W'' ⟨c, he, q⟩ => q.elim (fun q => .inl ⟨by rw [he, q.1]; rfl, q.2⟩) (fun q => .inr ⟨by rw [he, q.1]; rfl, q.2⟩)) _ h0)
  have hmf : ∀ (fn : Fn) (first cap : Array Value) (w : World), (Instr.makeFunc fn first cap).run Try.prog w = .ok (.func fn first cap) w := fun _ _ _ _ => rfl
  clear hr hb hs h0
  unfold eachF at HC
  go_enter Try.func80, Try.ntmps80
  go_wp2_with (first
    | (go_at_call 108
       refine HC.out.mono ?_
       rintro e w2 (⟨rfl, i2⟩ | ⟨rfl, x2⟩)))
  · have HI := Lib.hid i2
    clear i2
    go_wp2_with fail
    go_ret
    exact .inl ⟨rfl, HI.out⟩
  · have HX := Lib.hid x2
    clear x2
    go_wp2_with fail
    go_ret
    exact .inr ⟨rfl, HX.out⟩
end Go.Proofs.Ytkackejipgabfaa.Char

/- A range over a function whose elements are known ahead and whose iterator keeps blocks of its own (a map, boxes): an own law over the library's steps. -/
namespace Go.Proofs.Ytkackejipgabfaa.Char
open Go.RowKit

/-- what an iterator does between two rounds: it turns blocks of its own alone; those that it lays are its own -/
structure ItStep (O : Nat → Prop) (W : World) (O' : Nat → Prop) (W' : World) : Prop where
  low : Below 0 W W'
  up : ∀ k, O k → O' k
  new : ∀ k, O' k → O k ∨ W.heap.size ≤ k
  keep : ∀ k, k < W.heap.size → ¬ O k → W'.heap[k]? = W.heap[k]?
  lt : ∀ k, O' k → k < W'.heap.size
theorem ItStep.refl {O : Nat → Prop} {W : World} (h : ∀ k, O k → k < W.heap.size) : ItStep O W O W := ⟨Below.refl _ _, fun _ h => h, fun _ h => .inl h, fun _ _ _ => rfl, h⟩
theorem ItStep.trans {O O' O'' : Nat → Prop} {W W' W'' : World} (h : ItStep O W O' W') (k : ItStep O' W' O'' W'') : ItStep O W O'' W'' :=
  ⟨h.low.trans k.low, fun i hi => k.up i (h.up i hi), fun i hi => (k.new i hi).elim (h.new i) (fun q => .inr (Nat.le_trans h.low.size q)),
   fun i hi hn => (k.keep i (Nat.lt_of_lt_of_le hi h.low.size) (fun ho => (h.new i ho).elim hn (fun q => by omega))).trans (h.keep i hi hn), k.lt⟩
/-- new blocks alone -/
theorem ItStep.grow {O : Nat → Prop} {W W' : World} (h : ∀ k, O k → k < W.heap.size) (b : Below W.heap.size W W') : ItStep O W (fun k => O k ∨ (W.heap.size ≤ k ∧ k < W'.heap.size)) W' :=
  ⟨b.mono (Nat.zero_le _), fun _ h => .inl h, fun _ hk => hk.imp id And.left, fun k hk _ => b.block k hk, fun k hk => hk.elim (fun q => Nat.lt_of_lt_of_le (h k q) b.size) And.right⟩
/-- new blocks, of which none becomes one's own -/
theorem ItStep.pass {O : Nat → Prop} {W W' : World} (h : ∀ k, O k → k < W.heap.size) (b : Below W.heap.size W W') : ItStep O W O W' :=
  ⟨b.mono (Nat.zero_le _), fun _ h => h, fun _ hk => .inl hk, fun k hk _ => b.block k hk, fun k hk => Nat.lt_of_lt_of_le (h k hk) b.size⟩
theorem below_put0 {A W : World} (h : Below 0 A W) (l : Nat) (o : Obj) : Below 0 A (W.putObj l o) :=
  ⟨h.os, h.tape, h.output, by rw [World.putObj_size]; exact h.size, fun k hk => absurd hk (by omega)⟩
/-- one's own block turned -/
theorem ItStep.put {O : Nat → Prop} {W : World} (h : ∀ k, O k → k < W.heap.size) {l : Nat} (hl : O l) (o : Obj) : ItStep O W O (W.putObj l o) :=
  ⟨below_put0 (Below.refl _ _) _ _, fun _ h => h, fun _ h => .inl h, fun k _ hn => World.putObj_heap_other (fun e => hn (by rw [e]; exact hl)), fun k hk => by rw [World.putObj_size]; exact h k hk⟩
/-- what an iterator is to do: it hands over elements of the keys xs0, in this order; its own blocks O are not turned by the rounds -/
def SeqOwn {α β : Type} (P : Program) (g : Nat) (lb : Array Value) (encs : α → Array Value) (key : α → β) (St : World → Prop) (xs0 : List β) (w : World) : Prop :=
  ∀ (l : Nat) (J Jx : (Nat → Prop) → List α → World → Prop) (W : World), Below w.heap.size w W →
    (∀ O pre W1, J O pre W1 → St W1) →
    (∀ O pre W1 O' W2, J O pre W1 → ItStep O W1 O' W2 → J O' pre W2) → (∀ O pre W1 O' W2, Jx O pre W1 → ItStep O W1 O' W2 → Jx O' pre W2) →
    J (fun _ => False) [] W →
    (∀ O pre x W1 m, (∀ k, O k → k < W1.heap.size) → J O pre W1 → (pre ++ [x]).map key <+: xs0 → YieldAt Fence.wide m P l (encs x) W1 fun e W' =>
      W1.heap.size ≤ W'.heap.size ∧ (∀ k, O k → W'.heap[k]? = W1.heap[k]?) ∧ ((e = .returned (.bool true) ∧ J O (pre ++ [x]) W') ∨ (e = .returned (.bool false) ∧ Jx O (pre ++ [x]) W'))) →
    Calls P g (#[.func (.yield l) #[] #[]] ++ lb) W fun e W' => (∃ v, e = .returned v) ∧ ∃ O, (∀ k, O k → k < W'.heap.size) ∧ ((∃ xs, xs.map key = xs0 ∧ J O xs W') ∨ ∃ pre, pre.map key <+: xs0 ∧ Jx O pre W')
/-- how a round's body is to end -/
def setPost {α : Type} (O : Nat → Prop) (I : (Nat → Prop) → List α → World → Prop) (Ix : Code → (Nat → Prop) → List α → World → Prop) (xs : List α) (W : World) : Exit → Act → World → Prop
  | .normal, _, W' => W.heap.size ≤ W'.heap.size ∧ (∀ k, O k → W'.heap[k]? = W.heap[k]?) ∧ I O xs W'
  | .ret, _, W' => W.heap.size ≤ W'.heap.size ∧ (∀ k, O k → W'.heap[k]? = W.heap[k]?) ∧ Ix .ret O xs W'
  | .exit id, _, W' => W.heap.size ≤ W'.heap.size ∧ (∀ k, O k → W'.heap[k]? = W.heap[k]?) ∧ Ix (.exit id) O xs W'
  | .goto t, _, W' => W.heap.size ≤ W'.heap.size ∧ (∀ k, O k → W'.heap[k]? = W.heap[k]?) ∧ Ix (.goto t) O xs W'
  | .panic _, _, _ => False
  | .outgrown, _, _ => False
section
variable {n : Nat} {P : Program}
theorem roundIn_wide {m m' : Nat} {P : Program} {l : Nat} {f : FuncId} {tmps : Array Value} {assign body : Code} {w : World} {R : Ending → World → Prop}
    (h : RoundIn Fence.wide m P l f tmps assign body w R) : RoundIn Fence.wide m' P l f tmps assign body w R := ⟨h.1, fun c cs _ => h.2 c cs (fun d hd => by cases hd)⟩
theorem wpIn_rangeFunc_set {α β : Type} {g : Operand} {ps : Array Tmp} {assign body : Code} {Q : Exit → Act → World → Prop} {a : Act} {w : World}
    {gf : Nat} {lb : Array Value} (hg : a.eval g = .func (.func gf) #[] lb) (eg : ∀ args w, (callFunc gf args).run P w = .ok (.enter gf args) w)
    {encs : α → Array Value} {key : α → β} {St : World → Prop} {xs0 : List β} {w0 : World} (hseq : SeqOwn P gf lb encs key St xs0 w0) (hb0 : Below w0.heap.size w0 w) (hps : ∀ x, (encs x).size = ps.size)
    (I : (Nat → Prop) → List α → World → Prop) (Ix : Code → (Nat → Prop) → List α → World → Prop)
    (hI : ∀ O pre W O' W', I O pre W → ItStep O W O' W' → I O' pre W') (hIx : ∀ c O pre W O' W', Ix c O pre W → ItStep O W O' W' → Ix c O' pre W')
    (hSt : ∀ O pre W, I O pre W → St W) (h0 : I (fun _ => False) [] w)
    (Ax : (Nat → Prop) → α → Act → World → Prop) (hAx : ∀ O x a' W O' W', Ax O x a' W → ItStep O W O' W' → Ax O' x a' W')
    (hassign : ∀ (l m : Nat) (O : Nat → Prop) (pre : List α) (x : α) (W : World) (K : Act → World → Prop), (∀ k, O k → k < W.heap.size) → I O pre W →
      (∀ a' W', W.heap.size ≤ W'.heap.size → (∀ k, O k → W'.heap[k]? = W.heap[k]?) → I O pre W' → Ax O x a' W' → K a' W') →
      assign.wpIn (Fence.wide.inRound l) m P (Exit.then K (fun _ _ _ => False)) { tmps := (ps.zip (encs x)).foldl (fun t (p, v) => t.setIfInBounds p v) a.tmps, defers := [] } W)
    (hbody : ∀ (l m : Nat) (O : Nat → Prop) (pre : List α) (x : α) (a' : Act) (W : World), (∀ k, O k → k < W.heap.size) → I O pre W → Ax O x a' W → (pre ++ [x]).map key <+: xs0 → body.wpIn (Fence.wide.inRound l) m P (setPost O I Ix (pre ++ [x]) W) a' W)
    (hdone : ∀ (O : Nat → Prop) (xs : List α) (W : World), (∀ k, O k → k < W.heap.size) → O w.heap.size → xs.map key = xs0 → I O xs W → W.heap[w.heap.size]? = some (.deferred (some [])) → Q .normal { a with defers := { target := .collected w.heap.size, args := #[] } :: a.defers } W)
    (hstop : ∀ (O : Nat → Prop) (c : Code) (pre : List α) (W : World), (∀ k, O k → k < W.heap.size) → O w.heap.size → pre.map key <+: xs0 → Ix c O pre W → W.heap[w.heap.size]? = some (.deferred (some [])) → c.wpIn Fence.wide n P Q { a with defers := { target := .collected w.heap.size, args := #[] } :: a.defers } W) :
    (Code.rangeFunc g ps assign body).wpIn Fence.wide n P Q a w := by
  refine wpIn_rangeFunc fun fn hfn => ?_
  rw [show Fence.wide.round = none from rfl]
  obtain ⟨rec, hrec⟩ : ∃ rec : LoopState → Option Code → Loop, rec = fun st pe => { state := st, pending := pe, fn, tmps := a.tmps, params := ps, assign, body, defers := w.heap.size } := ⟨_, rfl⟩
  obtain ⟨Wc, hWc⟩ : ∃ Wc, Wc = (w.alloc (.deferred (some []))).alloc (.loop (rec .ready none)) := ⟨_, rfl⟩
  have sWc : Wc.heap.size = w.heap.size + 2 := by rw [hWc]; simp
  have bWc : Below w.heap.size w Wc := by rw [hWc]; exact ((Below.refl _ w).alloc (Nat.le_refl _) _).alloc (by simp) _
  have r1 : Wc.heap[w.heap.size + 1]? = some (.loop (rec .ready none)) := by
    rw [hWc]; have := World.alloc_heap_new (w.alloc (.deferred (some []))) (.loop (rec .ready none)); rwa [World.size_alloc] at this
  have r0 : Wc.heap[w.heap.size]? = some (.deferred (some [])) := by
    rw [hWc]; exact (Below.heap_alloc _ _ _ (by simp)).trans (World.alloc_heap_new w _)
  obtain ⟨U, hU⟩ : ∃ U : (Nat → Prop) → Nat → Prop, U = fun O k => O k ∨ k = w.heap.size ∨ k = w.heap.size + 1 := ⟨_, rfl⟩
  have uD : ∀ O, U O w.heap.size := fun O => by rw [hU]; exact .inr (.inl rfl)
  have uL : ∀ O, U O (w.heap.size + 1) := fun O => by rw [hU]; exact .inr (.inr rfl)
  have uO : ∀ O k, O k → U O k := fun O k h => by rw [hU]; exact .inl h
  have uLt : ∀ (O : Nat → Prop) (W : World), (∀ k, O k → k < W.heap.size) → w.heap.size + 1 < W.heap.size → ∀ k, U O k → k < W.heap.size := fun O W h hs k hk => by
    rw [hU] at hk
    rcases hk with hk | rfl | rfl
    · exact h k hk
    · omega
    · omega
  have uStep : ∀ (O O' : Nat → Prop) (W W' : World), w.heap.size + 1 < W.heap.size → ItStep O W O' W' → ItStep (U O) W (U O') W' := fun O O' W W' hs h => by
    have h1 := h.low.size
    refine ⟨h.low, fun k hk => ?_, fun k hk => ?_, fun k hk hn => h.keep k hk (fun ho => hn (uO _ _ ho)), uLt _ _ h.lt (by omega)⟩
    · rw [hU] at hk ⊢
      exact hk.imp (h.up k) id
    · rw [hU] at hk ⊢
      rcases hk with hk | hk
      · exact (h.new k hk).imp .inl id
      · exact .inl (.inr hk)
  have hi0 : I (U fun _ => False) [] Wc := hI _ _ _ _ _ h0 ⟨bWc.mono (Nat.zero_le _), fun _ h => h.elim, fun k hk => by
    rw [hU] at hk
    rcases hk with hk | rfl | rfl
    · exact hk.elim
    · exact .inr (Nat.le_refl _)
    · exact .inr (by omega), fun k hk _ => bWc.block k hk, uLt _ _ (fun _ h => h.elim) (by omega)⟩
  refine ⟨w.heap.size + 1, [{ target := .collected w.heap.size, args := #[] }], Wc, { target := .fn (.func gf) lb, args := #[.func (.yield (w.heap.size + 1)) #[] #[]] }, Wc, gf, #[.func (.yield (w.heap.size + 1)) #[] #[]] ++ lb, Wc, ?_, ?_, ?_, ?_, (fun h => by cases h), ?_⟩
  · rw [hWc, hrec]; exact run_enterLoop_outer _ _ _ _ _
  · simp only [resolve, hg]
    simp [go_sem]
  · exact fun _ _ => trivial
  · simp [invoke, go_sem, eg]
  · refine (callsIn_wide.2 (hseq (w.heap.size + 1) (fun O pre W => I (U O) pre W ∧ W.heap[w.heap.size + 1]? = some (.loop (rec .ready none)) ∧ W.heap[w.heap.size]? = some (.deferred (some [])) ∧ ¬ O w.heap.size ∧ ¬ O (w.heap.size + 1))
      (fun O pre W => ∃ c, Ix c (U O) pre W ∧ W.heap[w.heap.size + 1]? = some (.loop (rec .done (some c))) ∧ W.heap[w.heap.size]? = some (.deferred (some [])) ∧ ¬ O w.heap.size ∧ ¬ O (w.heap.size + 1)) Wc (hb0.trans (bWc.mono hb0.size)) (fun O pre W1 h => hSt _ _ _ h.1) ?_ ?_ ⟨hi0, r1, r0, fun h => h, fun h => h⟩ ?_)).mono ?_
    · rintro O pre W1 O' W2 ⟨i, l1, d1, n0, n1⟩ hs
      have hlt : w.heap.size + 1 < W1.heap.size := (Array.getElem?_eq_some_iff.1 l1).1
      refine ⟨hI _ _ _ _ _ i (uStep _ _ _ _ hlt hs), (hs.keep _ hlt n1).trans l1, (hs.keep _ (by omega) n0).trans d1, fun h => ?_, fun h => ?_⟩
      · rcases hs.new _ h with h | h
        · exact n0 h
        · omega
      · rcases hs.new _ h with h | h
        · exact n1 h
        · omega
    · rintro O pre W1 O' W2 ⟨c, i, l1, d1, n0, n1⟩ hs
      have hlt : w.heap.size + 1 < W1.heap.size := (Array.getElem?_eq_some_iff.1 l1).1
      refine ⟨c, hIx _ _ _ _ _ _ i (uStep _ _ _ _ hlt hs), (hs.keep _ hlt n1).trans l1, (hs.keep _ (by omega) n0).trans d1, fun h => ?_, fun h => ?_⟩
      · rcases hs.new _ h with h | h
        · exact n0 h
        · omega
      · rcases hs.new _ h with h | h
        · exact n1 h
        · omega
    · rintro O pre x Wb m hO ⟨hi, hl, hk, n0, n1⟩ hpx
      have hlt : w.heap.size + 1 < Wb.heap.size := (Array.getElem?_eq_some_iff.1 hl).1
      have hy := run_yield (P := P) (args := encs x) hl (by rw [hrec]; exact hps x)
      rw [hrec] at hy
      have hUl := uLt O Wb hO hlt
      refine ⟨fn, _, assign, body, hy, roundIn_of_wpIn hfn (hassign _ m _ pre x Wb _ hUl hi ?_)⟩
      clear hy
      intro a' W sW fW iW aW
      replace hl := (fW _ (uL _)).trans hl
      replace hk := (fW _ (uD _)).trans hk
      replace hlt : w.heap.size + 1 < W.heap.size := (Array.getElem?_eq_some_iff.1 hl).1
      have hUW : ∀ k, U O k → k < W.heap.size := fun k hk => Nat.lt_of_lt_of_le (hUl k hk) sW
      refine ⟨_, run_beginRound hl (by rw [hrec]), ?_⟩
      have hs2 : ItStep (U O) W (U O) (W.putObj (w.heap.size + 1) (.loop { rec .ready none with state := .busy })) := ItStep.put hUW (uL _) _
      have hl2 : (W.putObj (w.heap.size + 1) (.loop { rec .ready none with state := .busy })).heap[w.heap.size + 1]? = some (.loop { rec .ready none with state := .busy }) := World.putObj_heap_same hlt
      have hk2 : (W.putObj (w.heap.size + 1) (.loop { rec .ready none with state := .busy })).heap[w.heap.size]? = some (.deferred (some [])) := (World.putObj_heap_other (by omega)).trans hk
      have o2 : ∀ k, O k → (W.putObj (w.heap.size + 1) (.loop { rec .ready none with state := .busy })).heap[k]? = Wb.heap[k]? := fun k hk => (World.putObj_heap_other (fun e => n1 (by rw [← e]; exact hk))).trans (fW k (uO _ _ hk))
      have s2 : (W.putObj (w.heap.size + 1) (.loop { rec .ready none with state := .busy })).heap.size = W.heap.size := World.putObj_size ..
      refine wpIn_mono (hbody _ m _ pre x a' _ hs2.lt (hI _ _ _ _ _ iW hs2) (hAx _ _ _ _ _ _ aW hs2) hpx) ?_
      have fin : ∀ (jump : Option Code) (W3 : World), W.heap.size ≤ W3.heap.size → (∀ k, U O k → W3.heap[k]? = (W.putObj (w.heap.size + 1) (.loop { rec .ready none with state := .busy })).heap[k]?) →
          ∃ W4, (Instr.endRound (w.heap.size + 1) jump).run P W3 = .ok (.bool jump.isNone) W4 ∧ Wb.heap.size ≤ W4.heap.size ∧ (∀ k, O k → W4.heap[k]? = Wb.heap[k]?) ∧ ItStep (U O) W3 (U O) W4 ∧
          W4.heap[w.heap.size + 1]? = some (.loop (rec (if jump.isNone then .ready else .done) jump)) ∧ W4.heap[w.heap.size]? = some (.deferred (some [])) := fun jump W3 h3 f3 => by
        have hl3 := (f3 _ (uL _)).trans hl2
        have := run_endRound (P := P) jump hl3
        rw [hrec] at this
        refine ⟨_, this, by rw [World.putObj_size]; omega, fun k hk => ?_, ItStep.put (fun k hk => Nat.lt_of_lt_of_le (hUW k hk) h3) (uL _) _, ?_, (World.putObj_heap_other (by omega)).trans ((f3 _ (uD _)).trans hk2)⟩
        · exact (World.putObj_heap_other (fun e => n1 (by rw [← e]; exact hk))).trans ((f3 k (uO _ _ hk)).trans (o2 k hk))
        · rw [World.putObj_heap_same (Array.getElem?_eq_some_iff.1 hl3).1, hrec]
      rintro e a3 W3 hp
      cases e with
      | normal =>
        obtain ⟨z3, f3, i3⟩ := hp
        obtain ⟨W4, hr, z4, f4, st4, l4, d4⟩ := fin none W3 (Nat.le_trans (Nat.le_of_eq s2.symm) z3) f3
        exact ⟨_, _, hr, z4, f4, .inl ⟨rfl, hI _ _ _ _ _ i3 st4, l4, d4, n0, n1⟩⟩
      | ret =>
        obtain ⟨z3, f3, i3⟩ := hp
        obtain ⟨W4, hr, z4, f4, st4, l4, d4⟩ := fin (some .ret) W3 (Nat.le_trans (Nat.le_of_eq s2.symm) z3) f3
        exact ⟨_, _, hr, z4, f4, .inr ⟨rfl, .ret, hIx _ _ _ _ _ _ i3 st4, l4, d4, n0, n1⟩⟩
      | exit id =>
        obtain ⟨z3, f3, i3⟩ := hp
        obtain ⟨W4, hr, z4, f4, st4, l4, d4⟩ := fin (some (.exit id)) W3 (Nat.le_trans (Nat.le_of_eq s2.symm) z3) f3
        exact ⟨_, _, hr, z4, f4, .inr ⟨rfl, .exit id, hIx _ _ _ _ _ _ i3 st4, l4, d4, n0, n1⟩⟩
      | goto t =>
        obtain ⟨z3, f3, i3⟩ := hp
        obtain ⟨W4, hr, z4, f4, st4, l4, d4⟩ := fin (some (.goto t)) W3 (Nat.le_trans (Nat.le_of_eq s2.symm) z3) f3
        exact ⟨_, _, hr, z4, f4, .inr ⟨rfl, .goto t, hIx _ _ _ _ _ _ i3 st4, l4, d4, n0, n1⟩⟩
      | panic ch => exact hp.elim
      | outgrown => exact hp.elim
    · rintro e W2 ⟨⟨v, rfl⟩, O, hO, (⟨xs, hxs, hi, hl, hk, n0, n1⟩ | ⟨pre, hpre, c, hi, hl, hk, n0, n1⟩)⟩
      · have hlt : w.heap.size + 1 < W2.heap.size := (Array.getElem?_eq_some_iff.1 hl).1
        have hs := fun o => ItStep.put (uLt O W2 hO hlt) (uL O) o
        refine ⟨none, _, by have := run_endLoop (P := P) hl (by rw [hrec]; simp); rw [hrec] at this; exact this, ?_⟩
        exact hdone _ xs _ (hs _).lt (uD O) hxs (hI _ _ _ _ _ hi (hs _)) ((World.putObj_heap_other (by omega)).trans hk)
      · have hlt : w.heap.size + 1 < W2.heap.size := (Array.getElem?_eq_some_iff.1 hl).1
        have hs := fun o => ItStep.put (uLt O W2 hO hlt) (uL O) o
        refine ⟨some c, _, by have := run_endLoop (P := P) hl (by rw [hrec]; simp); rw [hrec] at this; exact this, ?_⟩
        exact hstop _ c pre _ (hs _).lt (uD O) hpre (hIx _ _ _ _ _ _ hi (hs _)) ((World.putObj_heap_other (by omega)).trans hk)
end
end Go.Proofs.Ytkackejipgabfaa.Char
