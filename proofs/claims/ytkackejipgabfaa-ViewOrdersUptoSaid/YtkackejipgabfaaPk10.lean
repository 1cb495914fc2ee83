/- ThroughV Through2 AllV -/
import Derived.Test.YtkackejipgabfaaPk05
import Derived.Test.YtkackejipgabfaaPk09
import Derived.Test.YtkackejipgabfaaPk03
import Derived.Shelf.Abstract
import Derived.Shelf.RegionOpen
import Derived.OwnWalkIn
import Derived.TacticsInMore
import Derived.LoopNIn
import Derived.LoopIn
import Derived.Maps.OwnIn
import Derived.RangeFuncBound
import Derived.Laws.EntriesVeiled
import Derived.RangeFuncLeaves
/- The walk of what goes through a view's nodes: the closure that calls itself. -/
namespace Go.Proofs.Ytkackejipgabfaa.Char
open Go.RowKit Go.Lib Go.Shelf
attribute [local go_sem] Oper.semAt_some

/-- what is handed to a loop -/
structure Met where
  id : Int
  r : Rc
  ok : Option Addr
  jk : Nat
  oa : Option Addr
  ja : Nat
  aside : Bool
  wf : (Lit.int .i64 id).wf = true
def Met.key (m : Met) : Gn := (m.id, m.aside, m.r)
def Met.enc (m : Met) : Array Value := #[.int .i64 m.id, .agg #[.int .i64 m.r.kd, .string (bs m.r.nm), .string (bs m.r.tx), .int .i64 m.r.pa, .slice m.ok m.r.ks.length m.jk, .slice m.oa m.r.ats.length m.ja, .bool m.r.gone, .bool m.aside]]
def atC (eb vx yx ab : Nat) : Value := .func (.func 79) #[] #[.pointer (some ⟨eb, 0, none⟩), .pointer (some ⟨vx, 0, none⟩), .pointer (some ⟨yx, 0, none⟩), .pointer (some ⟨ab, 0, none⟩)]
/-- what the iterator keeps: its boxes, and the map of what has been gone through -/
structure Fx (l m0 eb vx yx ab : Nat) (O : Nat → Prop) (acc : List Gn) (W : World) : Prop where
  lt : ∀ k, O k → k < W.heap.size
  om : O m0
  oe : O eb
  oy : O yx
  oa : O ab
  ce : W.heap[eb]? = some (.cells #[.map (some m0)] 104 (0, 0))
  cy : W.heap[yx]? = some (.cells #[.func (.yield l) #[] #[]] 155 (0, 0))
  ca : W.heap[ab]? = some (.cells #[atC eb vx yx ab] 156 (0, 0))
  met : ∃ D, MetI W m0 (acc.map (·.1)) D
/-- the iterator's own blocks, before and behind: but for the map they stand -/
structure AtOK (m0 : Nat) (O : Nat → Prop) (W : World) (O' : Nat → Prop) (W' : World) : Prop where
  up : ∀ k, O k → O' k
  new : ∀ k, O' k → O k ∨ W.heap.size ≤ k
  lt : ∀ k, O' k → k < W'.heap.size
  size : W.heap.size ≤ W'.heap.size
  keep : ∀ k, O k → k ≠ m0 → W'.heap[k]? = W.heap[k]?
theorem AtOK.trans {m0 : Nat} {O O' O'' : Nat → Prop} {W W' W'' : World} (h : AtOK m0 O W O' W') (k : AtOK m0 O' W' O'' W'') : AtOK m0 O W O'' W'' :=
  ⟨fun i hi => k.up i (h.up i hi), fun i hi => (k.new i hi).elim (h.new i) (fun q => .inr (Nat.le_trans h.size q)), k.lt, Nat.le_trans h.size k.size, fun i hi hn => (k.keep i (h.up i hi) hn).trans (h.keep i hi hn)⟩
theorem MetI.look {w : World} {m0 : Nat} {ids : List Int} {D : DataW Value} (h : MetI w m0 ids D) {x : Int} (hx : (Lit.int .i64 x).wf = true) : (Instr.lookup 104 (.map (some m0)) (.int .i64 x) true).run Try.prog w = .ok (.tuple #[.agg #[], .bool (decide (x ∈ ids))]) w := by
  obtain ⟨v, ps, hr, hv⟩ := h.own.look_ok law_int Try.underlying104 (Try.zeroValue105 w) (zd := .agg []) (zp := []) unitElem_mk (key_int hx)
  obtain ⟨rfl, _⟩ := unitElem_inv hv
  rw [hr, h.has x]
theorem has_keys (acc : List Gn) (id : Int) : decide (id ∈ acc.map (·.1)) = hasG acc id := by
  rw [Bool.eq_iff_iff, decide_eq_true_eq, hasG_mem]
section
variable {Z : Nat → Prop} {w0 : World} {vp : Option Addr} {look : Int → Option Rc} {l m0 eb vx yx ab : Nat}
/-- how the rounds leave the world: what the view reads, and the box of the view's pointer, stand -/
structure ThS (Z : Nat → Prop) (w0 : World) (vx : Nat) (W : World) : Prop where
  z : ∀ g, Z g ∨ g = vx → W.heap[g]? = w0.heap[g]?
  size : w0.heap.size ≤ W.heap.size
/-- what is asked of the view whose pointer is vp, and of which look tells -/
structure ThH (Z : Nat → Prop) (w0 : World) (vp : Option Addr) (look : Int → Option Rc) (vx : Nat) : Prop where
  tell : ∀ W, (∀ g, Z g → W.heap[g]? = w0.heap[g]?) → w0.heap.size ≤ W.heap.size → ∀ id, (Lit.int .i64 id).wf = true → Calls Try.prog 58 #[.pointer vp, .int .i64 id] W (RecPost Z W (look id))
  sm : ∀ id r, look id = some r → RcSm r
  vb : w0.heap[vx]? = some (.cells #[.pointer vp] 38 (0, 0))
  zB : ∀ g, Z g → g < w0.heap.size
  wf : ∀ id r, look id = some r → ∀ z, z ∈ r.ks ∨ z ∈ r.ats → (Lit.int .i64 z).wf = true
theorem Fx.move {O : Nat → Prop} {acc : List Gn} {W : World} (h : Fx l m0 eb vx yx ab O acc W) {O' : Nat → Prop} {W' : World} (hO : ∀ k, O k → O' k) (hlt : ∀ k, O' k → k < W'.heap.size) (hk : ∀ k, O k → W'.heap[k]? = W.heap[k]?) : Fx l m0 eb vx yx ab O' acc W' := by
  obtain ⟨D, hm⟩ := h.met
  exact ⟨hlt, hO _ h.om, hO _ h.oe, hO _ h.oy, hO _ h.oa, (hk _ h.oe).trans h.ce, (hk _ h.oy).trans h.cy, (hk _ h.oa).trans h.ca, D, hm.move (hk _ h.om)⟩
theorem Fx.grow {O : Nat → Prop} {acc : List Gn} {W : World} (h : Fx l m0 eb vx yx ab O acc W) {W' : World} (hb : Below W.heap.size W W') :
    AtOK m0 O W (fun k => O k ∨ (W.heap.size ≤ k ∧ k < W'.heap.size)) W' ∧ Fx l m0 eb vx yx ab (fun k => O k ∨ (W.heap.size ≤ k ∧ k < W'.heap.size)) acc W' := by
  have hlt : ∀ k, (O k ∨ (W.heap.size ≤ k ∧ k < W'.heap.size)) → k < W'.heap.size := fun k hk => hk.elim (fun q => Nat.lt_of_lt_of_le (h.lt k q) hb.size) And.right
  exact ⟨⟨fun _ q => .inl q, fun _ q => q.imp _root_.id And.left, hlt, hb.size, fun k hk _ => hb.block k (h.lt k hk)⟩, h.move (fun _ q => .inl q) hlt fun k hk => hb.block k (h.lt k hk)⟩
/-- what is behind the closure -/
def AtP (l m0 eb vx yx ab : Nat) (J Jx : (Nat → Prop) → List Met → World → Prop) (full : List Gn) (O : Nat → Prop) (W : World) (xs : List Met) (acc' : List Gn) : Ending → World → Prop := fun e W' =>
  ∃ O', AtOK m0 O W O' W' ∧ ((e = .returned (.bool true) ∧ ∃ ys, (xs ++ ys).map Met.key = acc' ∧ J O' (xs ++ ys) W' ∧ Fx l m0 eb vx yx ab O' acc' W') ∨ (e = .returned (.bool false) ∧ ∃ ys, (xs ++ ys).map Met.key <+: full ∧ Jx O' (xs ++ ys) W'))
set_option maxRecDepth 100000 in
set_option maxHeartbeats 4000000 in
theorem cl1_any (z : Int) (W : World) {R : Ending → World → Prop} (ha : W.cell? ⟨ab, 0, none⟩ = some (atC eb vx yx ab))
    (h : Calls Try.prog 79 #[.int .i64 z, .bool true, .pointer (some ⟨eb, 0, none⟩), .pointer (some ⟨vx, 0, none⟩), .pointer (some ⟨yx, 0, none⟩), .pointer (some ⟨ab, 0, none⟩)] W fun e W' => ∃ c, e = .returned (.bool c) ∧ R e W') :
    Calls Try.prog 81 #[.int .i64 z, .pointer (some ⟨ab, 0, none⟩)] W fun e W' => ∃ c, e = .returned (.bool c) ∧ R e W' := by
  have H := Lib.hid h
  have eF := enters_of Try.func79 (by kernel_rfl) rfl
  clear h
  unfold atC at ha
  go_enter Try.func81, Try.ntmps81
  go_wp2_with (first
    | (go_at_call 79
       refine H.out.mono ?_
       rintro e w2 ⟨c, rfl, r2⟩
       have HR2 := Lib.hid r2
       clear r2))
  go_ret
  exact ⟨c, rfl, HR2.out⟩
set_option maxRecDepth 100000 in
set_option maxHeartbeats 4000000 in
theorem cl2_any (z : Int) (xb : Nat) (a : Bool) (W : World) {R : Ending → World → Prop} (ha : W.cell? ⟨ab, 0, none⟩ = some (atC eb vx yx ab)) (hx : W.cell? ⟨xb, 0, none⟩ = some (.bool a))
    (h : Calls Try.prog 79 #[.int .i64 z, .bool a, .pointer (some ⟨eb, 0, none⟩), .pointer (some ⟨vx, 0, none⟩), .pointer (some ⟨yx, 0, none⟩), .pointer (some ⟨ab, 0, none⟩)] W fun e W' => ∃ c, e = .returned (.bool c) ∧ R e W') :
    Calls Try.prog 82 #[.int .i64 z, .pointer (some ⟨ab, 0, none⟩), .pointer (some ⟨xb, 0, none⟩)] W fun e W' => ∃ c, e = .returned (.bool c) ∧ R e W' := by
  have H := Lib.hid h
  have eF := enters_of Try.func79 (by kernel_rfl) rfl
  clear h
  unfold atC at ha
  go_enter Try.func82, Try.ntmps82
  go_wp2_with (first
    | (go_at_call 79
       refine H.out.mono ?_
       rintro e w2 ⟨c, rfl, r2⟩
       have HR2 := Lib.hid r2
       clear r2))
  go_ret
  exact ⟨c, rfl, HR2.out⟩
/-- a list of numbers, each gone through -/
theorem list1_any (J Jx : (Nat → Prop) → List Met → World → Prop) (full : List Gn) (hJ : ∀ O pre W O' W', J O pre W → ItStep O W O' W' → J O' pre W') (E : World → Prop) (g : Int → Bool → List Gn → Option (List Gn)) (hx : ∀ k a acc acc', g k a acc = some acc' → ∃ ys, acc' = acc ++ ys) (a : Bool) (zs : List Int) (o : Option Addr) (j : Nat) (hl : zs.length ≤ 2 ^ 62)
    (hs : ∀ z, z ∈ zs → ∀ (acc acc1 : List Gn) (xs : List Met) (O : Nat → Prop) (W : World), E W → g z a acc = some acc1 → acc1 <+: full → xs.map Met.key = acc → J O xs W → Fx l m0 eb vx yx ab O acc W →
      Calls Try.prog 81 #[.int .i64 z, .pointer (some ⟨ab, 0, none⟩)] W (AtP l m0 eb vx yx ab J Jx full O W xs acc1))
    (acc acc' : List Gn) (xs : List Met) (O : Nat → Prop) (W : World) (hg : goL g zs a acc = some acc') (hpre : acc' <+: full) (hxs : xs.map Met.key = acc) (hj : J O xs W) (hf : Fx l m0 eb vx yx ab O acc W)
    (hE : ∀ W', (∀ k, O k → k ≠ m0 → W'.heap[k]? = W.heap[k]?) → E W')
    (hr : ∀ O' ys W', (∀ k, O k → k ≠ m0 → W'.heap[k]? = W.heap[k]?) → J O' (xs ++ ys) W' → IntsOn W' (fun _ => True) (.slice o zs.length j) zs) :
    Calls Try.prog 80 #[.slice o zs.length j, .func (.func 81) #[] #[.pointer (some ⟨ab, 0, none⟩)]] W (AtP l m0 eb vx yx ab J Jx full O W xs acc') := by
  obtain ⟨W1, hW1⟩ : ∃ W1, W1 = W.alloc (.cells #[.func (.func 81) #[] #[.pointer (some ⟨ab, 0, none⟩)]] 83) := ⟨_, rfl⟩
  have hb1 : Below W.heap.size W W1 := by rw [hW1]; exact (Below.refl _ _).alloc (Nat.le_refl _) _
  have hk1 : W1.heap[W.heap.size]? = some (.cells #[.func (.func 81) #[] #[.pointer (some ⟨ab, 0, none⟩)]] 83 (0, 0)) := by rw [hW1]; exact World.alloc_heap_new W _
  have hs1 : W1.heap.size = W.heap.size + 1 := by rw [hW1]; simp
  obtain ⟨g1, g2⟩ := hf.grow hb1
  have hm0 := hf.lt _ hf.om
  have hstep : ItStep O W (fun k => O k ∨ (W.heap.size ≤ k ∧ k < W1.heap.size)) W1 := ItStep.grow hf.lt hb1
  have h := each_1 ab zs o j
    (fun k W' => ∃ O' ys acck, AtOK m0 O W O' W' ∧ O' W.heap.size ∧ W'.heap[W.heap.size]? = some (.cells #[.func (.func 81) #[] #[.pointer (some ⟨ab, 0, none⟩)]] 83 (0, 0)) ∧ (xs ++ ys).map Met.key = acck ∧ J O' (xs ++ ys) W' ∧ Fx l m0 eb vx yx ab O' acck W' ∧ goL g (zs.drop k) a acck = some acc')
    (fun W' => ∃ O' ys, AtOK m0 O W O' W' ∧ (xs ++ ys).map Met.key <+: full ∧ Jx O' (xs ++ ys) W') W
    (fun k W' ⟨O', ys, acck, i1, i2, i3, i4, i5, i6, i7⟩ => hr O' ys W' i1.keep i5) hl
    (fun k W' ⟨O', ys, acck, i1, i2, i3, i4, i5, i6, i7⟩ => by simp [World.cell?, i3])
    (fun k hk W' ⟨O', ys, acck, i1, i2, i3, i4, i5, i6, i7⟩ => by
      rw [List.drop_eq_getElem_cons hk, goL] at i7
      cases hgz : g zs[k] a acck with
      | none => rw [hgz] at i7; cases i7
      | some acc1 =>
        rw [hgz] at i7
        dsimp only at i7
        have hp1 : acc1 <+: full := by
          obtain ⟨q, hq⟩ := goL_ext hx _ _ _ _ i7
          rw [hq] at hpre
          exact (List.prefix_append _ _).trans hpre
        refine (hs _ (List.getElem_mem hk) acck acc1 (xs ++ ys) O' W' (hE W' i1.keep) hgz hp1 i4 i5 i6).mono ?_
        rintro e W'' ⟨O'', j1, (⟨rfl, ys2, j2, j3, j4⟩ | ⟨rfl, ys2, j2, j3⟩)⟩
        · exact .inl ⟨rfl, O'', ys ++ ys2, acc1, i1.trans j1, j1.up _ i2, (j1.keep _ i2 (by omega)).trans i3, by rw [← List.append_assoc]; exact j2, by rw [← List.append_assoc]; exact j3, j4, i7⟩
        · exact .inr ⟨rfl, O'', ys ++ ys2, i1.trans j1, by rw [← List.append_assoc]; exact j2, by rw [← List.append_assoc]; exact j3⟩)
    (by
      rw [← hW1]
      exact ⟨_, [], acc, g1, .inr ⟨Nat.le_refl _, by omega⟩, hk1, by simpa using hxs, by simpa using hJ _ _ _ _ _ hj hstep, g2, hg⟩)
  refine h.mono ?_
  rintro e W' (⟨rfl, O', ys, acck, i1, i2, i3, i4, i5, i6, i7⟩ | ⟨rfl, O', ys, i1, i2, i3⟩)
  · rw [List.drop_length, goL] at i7
    cases i7
    exact ⟨O', i1, .inl ⟨rfl, ys, i4, i5, i6⟩⟩
  · exact ⟨O', i1, .inr ⟨rfl, ys, i2, i3⟩⟩
/-- a list of numbers, each gone through -/
theorem list2_any (xb : Nat) (J Jx : (Nat → Prop) → List Met → World → Prop) (full : List Gn) (hJ : ∀ O pre W O' W', J O pre W → ItStep O W O' W' → J O' pre W') (E : World → Prop) (g : Int → Bool → List Gn → Option (List Gn)) (hx : ∀ k a acc acc', g k a acc = some acc' → ∃ ys, acc' = acc ++ ys) (a : Bool) (zs : List Int) (o : Option Addr) (j : Nat) (hl : zs.length ≤ 2 ^ 62)
    (hs : ∀ z, z ∈ zs → ∀ (acc acc1 : List Gn) (xs : List Met) (O : Nat → Prop) (W : World), E W → g z a acc = some acc1 → acc1 <+: full → xs.map Met.key = acc → J O xs W → Fx l m0 eb vx yx ab O acc W →
      Calls Try.prog 82 #[.int .i64 z, .pointer (some ⟨ab, 0, none⟩), .pointer (some ⟨xb, 0, none⟩)] W (AtP l m0 eb vx yx ab J Jx full O W xs acc1))
    (acc acc' : List Gn) (xs : List Met) (O : Nat → Prop) (W : World) (hg : goL g zs a acc = some acc') (hpre : acc' <+: full) (hxs : xs.map Met.key = acc) (hj : J O xs W) (hf : Fx l m0 eb vx yx ab O acc W)
    (hE : ∀ W', (∀ k, O k → k ≠ m0 → W'.heap[k]? = W.heap[k]?) → E W')
    (hr : ∀ O' ys W', (∀ k, O k → k ≠ m0 → W'.heap[k]? = W.heap[k]?) → J O' (xs ++ ys) W' → IntsOn W' (fun _ => True) (.slice o zs.length j) zs) :
    Calls Try.prog 80 #[.slice o zs.length j, .func (.func 82) #[] #[.pointer (some ⟨ab, 0, none⟩), .pointer (some ⟨xb, 0, none⟩)]] W (AtP l m0 eb vx yx ab J Jx full O W xs acc') := by
  obtain ⟨W1, hW1⟩ : ∃ W1, W1 = W.alloc (.cells #[.func (.func 82) #[] #[.pointer (some ⟨ab, 0, none⟩), .pointer (some ⟨xb, 0, none⟩)]] 83) := ⟨_, rfl⟩
  have hb1 : Below W.heap.size W W1 := by rw [hW1]; exact (Below.refl _ _).alloc (Nat.le_refl _) _
  have hk1 : W1.heap[W.heap.size]? = some (.cells #[.func (.func 82) #[] #[.pointer (some ⟨ab, 0, none⟩), .pointer (some ⟨xb, 0, none⟩)]] 83 (0, 0)) := by rw [hW1]; exact World.alloc_heap_new W _
  have hs1 : W1.heap.size = W.heap.size + 1 := by rw [hW1]; simp
  obtain ⟨g1, g2⟩ := hf.grow hb1
  have hm0 := hf.lt _ hf.om
  have hstep : ItStep O W (fun k => O k ∨ (W.heap.size ≤ k ∧ k < W1.heap.size)) W1 := ItStep.grow hf.lt hb1
  have h := each_2 ab xb zs o j
    (fun k W' => ∃ O' ys acck, AtOK m0 O W O' W' ∧ O' W.heap.size ∧ W'.heap[W.heap.size]? = some (.cells #[.func (.func 82) #[] #[.pointer (some ⟨ab, 0, none⟩), .pointer (some ⟨xb, 0, none⟩)]] 83 (0, 0)) ∧ (xs ++ ys).map Met.key = acck ∧ J O' (xs ++ ys) W' ∧ Fx l m0 eb vx yx ab O' acck W' ∧ goL g (zs.drop k) a acck = some acc')
    (fun W' => ∃ O' ys, AtOK m0 O W O' W' ∧ (xs ++ ys).map Met.key <+: full ∧ Jx O' (xs ++ ys) W') W
    (fun k W' ⟨O', ys, acck, i1, i2, i3, i4, i5, i6, i7⟩ => hr O' ys W' i1.keep i5) hl
    (fun k W' ⟨O', ys, acck, i1, i2, i3, i4, i5, i6, i7⟩ => by simp [World.cell?, i3])
    (fun k hk W' ⟨O', ys, acck, i1, i2, i3, i4, i5, i6, i7⟩ => by
      rw [List.drop_eq_getElem_cons hk, goL] at i7
      cases hgz : g zs[k] a acck with
      | none => rw [hgz] at i7; cases i7
      | some acc1 =>
        rw [hgz] at i7
        dsimp only at i7
        have hp1 : acc1 <+: full := by
          obtain ⟨q, hq⟩ := goL_ext hx _ _ _ _ i7
          rw [hq] at hpre
          exact (List.prefix_append _ _).trans hpre
        refine (hs _ (List.getElem_mem hk) acck acc1 (xs ++ ys) O' W' (hE W' i1.keep) hgz hp1 i4 i5 i6).mono ?_
        rintro e W'' ⟨O'', j1, (⟨rfl, ys2, j2, j3, j4⟩ | ⟨rfl, ys2, j2, j3⟩)⟩
        · exact .inl ⟨rfl, O'', ys ++ ys2, acc1, i1.trans j1, j1.up _ i2, (j1.keep _ i2 (by omega)).trans i3, by rw [← List.append_assoc]; exact j2, by rw [← List.append_assoc]; exact j3, j4, i7⟩
        · exact .inr ⟨rfl, O'', ys ++ ys2, i1.trans j1, by rw [← List.append_assoc]; exact j2, by rw [← List.append_assoc]; exact j3⟩)
    (by
      rw [← hW1]
      exact ⟨_, [], acc, g1, .inr ⟨Nat.le_refl _, by omega⟩, hk1, by simpa using hxs, by simpa using hJ _ _ _ _ _ hj hstep, g2, hg⟩)
  refine h.mono ?_
  rintro e W' (⟨rfl, O', ys, acck, i1, i2, i3, i4, i5, i6, i7⟩ | ⟨rfl, O', ys, i1, i2, i3⟩)
  · rw [List.drop_length, goL] at i7
    cases i7
    exact ⟨O', i1, .inl ⟨rfl, ys, i4, i5, i6⟩⟩
  · exact ⟨O', i1, .inr ⟨rfl, ys, i2, i3⟩⟩
set_option maxRecDepth 100000 in
set_option maxHeartbeats 8000000 in
theorem at_through (HH : ThH Z w0 vp look vx) (J Jx : (Nat → Prop) → List Met → World → Prop) (full : List Gn)
    (hSt : ∀ O pre W, J O pre W → ThS Z w0 vx W)
    (hJ : ∀ O pre W O' W', J O pre W → ItStep O W O' W' → J O' pre W')
    (hY : ∀ O pre x W m, (∀ k, O k → k < W.heap.size) → J O pre W → (pre ++ [x]).map Met.key <+: full → YieldAt Fence.wide m Try.prog l x.enc W fun e W' =>
      W.heap.size ≤ W'.heap.size ∧ (∀ k, O k → W'.heap[k]? = W.heap[k]?) ∧ ((e = .returned (.bool true) ∧ J O (pre ++ [x]) W') ∨ (e = .returned (.bool false) ∧ Jx O (pre ++ [x]) W')))
    (hfl : full.length ≤ 100000000) :
    ∀ (f : Nat) (id : Int) (a : Bool) (acc acc' : List Gn) (xs : List Met) (O : Nat → Prop) (W : World), (Lit.int .i64 id).wf = true → goF look f id a acc = some acc' → acc' <+: full → xs.map Met.key = acc → J O xs W → Fx l m0 eb vx yx ab O acc W →
      Calls Try.prog 79 #[.int .i64 id, .bool a, .pointer (some ⟨eb, 0, none⟩), .pointer (some ⟨vx, 0, none⟩), .pointer (some ⟨yx, 0, none⟩), .pointer (some ⟨ab, 0, none⟩)] W (AtP l m0 eb vx yx ab J Jx full O W xs acc') := by
  intro f
  induction f with
  | zero => intro id a acc acc' xs O W _ hg; cases hg
  | succ f ih =>
    intro id a acc acc' xs O W hid hg hpre hxs hj hfx
    have hdd : ∀ k : Nat, (Fence.wide.depth.isSome = true → 1 ≤ k) := fun k h => by cases h
    obtain ⟨W1, hW1⟩ : ∃ W1, W1 = W.alloc (.cells #[.bool a] 4) := ⟨_, rfl⟩
    have hb1 : Below W.heap.size W W1 := by rw [hW1]; exact (Below.refl _ _).alloc (Nat.le_refl _) _
    have hs1 : W1.heap.size = W.heap.size + 1 := by rw [hW1]; simp
    obtain ⟨D, hmet⟩ := hfx.met
    have hom := hfx.lt _ hfx.om
    have hoe := hfx.lt _ hfx.oe
    have hm1 : MetI W1 m0 (acc.map (·.1)) D := hmet.move (hb1.block _ hom)
    have ce1 : W1.cell? ⟨eb, 0, none⟩ = some (.map (some m0)) := by
      have : W1.heap[eb]? = _ := (hb1.block _ hoe).trans hfx.ce
      simp [World.cell?, this]
    have hlk := hm1.look hid
    rw [has_keys acc] at hlk
    have hstep1 : ItStep O W (fun k => O k ∨ (W.heap.size ≤ k ∧ k < W1.heap.size)) W1 := ItStep.grow hfx.lt hb1
    obtain ⟨W2, hW2⟩ : ∃ W2, W2 = W1.alloc (.cells #[] 105) := ⟨_, rfl⟩
    have hb2 : Below W1.heap.size W1 W2 := by rw [hW2]; exact (Below.refl _ _).alloc (Nat.le_refl _) _
    have hs2 : W2.heap.size = W.heap.size + 2 := by rw [hW2]; simp; omega
    have hb02 : Below W.heap.size W W2 := hb1.trans (hb2.mono (by omega))
    have HW1 := Lib.hid hW1
    have HW2 := Lib.hid hW2
    rw [hW1] at ce1 hlk
    cases hh : hasG acc id with
    | true =>
      rw [hh] at hlk
      have hres : acc' = acc := by
        rw [goF] at hg
        cases hl : look id with
        | none => rw [hl] at hg; cases hg; rfl
        | some r => rw [hl] at hg; dsimp only at hg; rw [if_pos hh] at hg; cases hg; rfl
      subst hres
      refine (callsIn_wide (n := 8)).1 ?_
      refine callsIn_of_wp Try.func79 rfl trivial ?_ rfl
      simp only [Try.ntmps79, List.size_toArray, List.length_cons, List.length_nil, Nat.reduceAdd, Nat.reduceSub, Array.replicate_succ, Array.replicate_zero, List.push_toArray, List.append_toArray, List.nil_append, List.cons_append]
      have HJ := Lib.hid hJ
      have HXS := Lib.hid hxs
      have HJJ := Lib.hid hj
      have HFX := Lib.hid hfx
      have HB02 := Lib.hid hb02
      clear ih hY hSt hJ hg hpre hxs hj hfx hmet hm1 hstep1 hb1 hb2 hb02 hW1 hW2
      gi_wp2
      go_ret
      rw [← HW1.out, ← HW2.out]
      obtain ⟨g1, g2⟩ := HFX.out.grow HB02.out
      exact ⟨_, g1, .inl ⟨rfl, [], by simpa using HXS.out, by simpa using HJ.out _ _ _ _ _ HJJ.out (ItStep.grow HFX.out.lt HB02.out), g2⟩⟩
    | false =>
      rw [hh] at hlk
      have hst := hSt _ _ _ hj
      have h0W := hst.size
      have zW : ∀ g, Z g ∨ g = vx → g < w0.heap.size := fun g hg => by
        rcases hg with h | h
        · exact HH.zB g h
        · rw [h]; exact (Array.getElem?_eq_some_iff.1 HH.vb).1
      have zW2 : ∀ g, Z g ∨ g = vx → W2.heap[g]? = w0.heap[g]? := fun g hg => (hb02.block g (by have := zW g hg; omega)).trans (hst.z g hg)
      have cv : W2.cell? ⟨vx, 0, none⟩ = some (.pointer vp) := by
        have : W2.heap[vx]? = _ := (zW2 vx (.inr rfl)).trans HH.vb
        simp [World.cell?, this]
      have hR := HH.tell W2 (fun g hg => zW2 g (.inl hg)) (by omega) id hid
      obtain ⟨P, hP⟩ : ∃ P, P = RecPost Z W2 (look id) := ⟨_, rfl⟩
      rw [← hP] at hR
      rw [hW2, hW1] at hR cv
      have hf65 : Fence.wide.fn 58 := trivial
      have hf80 : Fence.wide.fn 80 := trivial
      have HP := Lib.hid hP
      have HR := Lib.hid ((callsIn_wide (n := 8)).2 hR)
      cases hl : look id with
      | none =>
        rw [hl] at HP
        have hres : acc' = acc := by
          rw [goF, hl] at hg
          cases hg; rfl
        subst hres
        have HJ := Lib.hid hJ
        have HXS := Lib.hid hxs
        have HJJ := Lib.hid hj
        have HFX := Lib.hid hfx
        have HB02 := Lib.hid hb02
        refine (callsIn_wide (n := 9)).1 ?_
        refine callsIn_of_wp Try.func79 rfl trivial ?_ rfl
        simp only [Try.ntmps79, List.size_toArray, List.length_cons, List.length_nil, Nat.reduceAdd, Nat.reduceSub, Array.replicate_succ, Array.replicate_zero, List.push_toArray, List.append_toArray, List.nil_append, List.cons_append]
        clear ih hY hSt hJ hg hpre hxs hj hfx hmet hm1 hstep1 hb1 hb2 hb02 hW1 hW2 hst zW zW2 hR hP
        gi_wp2_with ((try refine ⟨hdd _, ?_⟩); gi_at_call 58; refine HR.out.mono ?_; rintro e w3 hq; rw [HP.out] at hq; obtain ⟨⟨r', va, vb'⟩, rfl, x1, x2, x3⟩ := hq; obtain ⟨ok, jk, oa, ja, e1, e2⟩ := x2.form; dsimp only at e1 e2 x1; subst e1 e2; have HX3 := Lib.hid x3; clear x1 x2 x3; unfold rcV; dsimp only)
        go_ret
        have hb04 : Below W.heap.size W (w3.alloc (.cells #[.int .i64 r'.kd, .string (bs r'.nm), .string (bs r'.tx), .int .i64 r'.pa, .slice ok r'.ks.length jk, .slice oa r'.ats.length ja, .bool r'.gone] 34)) := (HB02.out.trans (HX3.out.mono HB02.out.size)).alloc (Nat.le_trans HB02.out.size HX3.out.size) _
        obtain ⟨g1, g2⟩ := HFX.out.grow hb04
        exact ⟨_, g1, .inl ⟨rfl, [], by simpa using HXS.out, by simpa using HJ.out _ _ _ _ _ HJJ.out (ItStep.grow HFX.out.lt hb04), g2⟩⟩
      | some r =>
        rw [hl] at HP
        have hsm := HH.sm id r hl
        have hwf := HH.wf id r hl
        -- what the closure tells, part by part
        rw [goF, hl] at hg
        dsimp only at hg
        rw [if_neg (by rw [hh]; simp)] at hg
        obtain ⟨acc1, hg1, hg2⟩ : ∃ acc1, goL (goF look f) r.ats true (acc ++ [(id, a, r)]) = some acc1 ∧ goL (goF look f) r.ks a acc1 = some acc' := by
          cases h1 : goL (goF look f) r.ats true (acc ++ [(id, a, r)]) with
          | none => rw [h1] at hg; cases hg
          | some acc1 => rw [h1] at hg; exact ⟨acc1, rfl, hg⟩
        have hp1 : acc1 <+: full := by
          obtain ⟨q, hq⟩ := goL_ext (goF_ext _ f) _ _ _ _ hg2
          rw [hq] at hpre
          exact (List.prefix_append _ _).trans hpre
        have hp0 : (acc ++ [(id, a, r)]) <+: full := by
          obtain ⟨q, hq⟩ := goL_ext (goF_ext _ f) _ _ _ _ hg1
          rw [hq] at hp1
          exact (List.prefix_append _ _).trans hp1
        have hal : acc.length ≤ 100000000 := by
          have := hp0.length_le
          rw [List.length_append] at this
          omega
        have hm0b : ∀ (bk : Nat) (cs : Array Value) (T : TypeId), W.heap[bk]? = some (.cells cs T (0, 0)) → bk ≠ m0 := fun bk cs T h e => by
          obtain ⟨es, clock, q0, _⟩ := hmet.own
          rw [e, q0] at h
          cases h
        have ne1 := hm0b _ _ _ hfx.ce
        have ne2 := hm0b _ _ _ hfx.cy
        have ne3 := hm0b _ _ _ hfx.ca
        have oy' := hfx.lt _ hfx.oy
        have oa' := hfx.lt _ hfx.oa
        -- what is known when the record has come
        have key : ∀ (w3 : World) (ok : Option Addr) (jk : Nat) (oa : Option Addr) (ja : Nat), RcOn w3 (fun g => Z g ∨ W2.heap.size ≤ g) (r, .slice ok r.ks.length jk, .slice oa r.ats.length ja) → Below W2.heap.size W2 w3 →
            (w3.alloc (.cells #[.int .i64 r.kd, .string (bs r.nm), .string (bs r.tx), .int .i64 r.pa, .slice ok r.ks.length jk, .slice oa r.ats.length ja, .bool r.gone] 34)).cell? ⟨eb, 0, none⟩ = some (.map (some m0)) ∧
            ∃ W5, (Instr.mapUpdate 104 (.map (some m0)) (.int .i64 id) (.agg #[])).run Try.prog (w3.alloc (.cells #[.int .i64 r.kd, .string (bs r.nm), .string (bs r.tx), .int .i64 r.pa, .slice ok r.ks.length jk, .slice oa r.ats.length ja, .bool r.gone] 34)) = .ok () W5 ∧
            W5.cell? ⟨yx, 0, none⟩ = some (.func (.yield l) #[] #[]) ∧ W5.cell? ⟨W.heap.size, 0, none⟩ = some (.bool a) ∧ W5.heap[w3.heap.size]? = some (rcB (r, .slice ok r.ks.length jk, .slice oa r.ats.length ja)) ∧
            ∃ O5, AtOK m0 O W O5 W5 ∧ Fx l m0 eb vx yx ab O5 (acc ++ [(id, a, r)]) W5 ∧ J O5 xs W5 ∧ O5 w3.heap.size ∧ O5 W.heap.size ∧ w3.heap.size ≠ m0 ∧ W.heap.size ≠ m0 ∧
              ∀ W', ThS Z w0 vx W' → (∀ k, O5 k → k ≠ m0 → W'.heap[k]? = W5.heap[k]?) → RcOn W' (fun _ => True) (r, .slice ok r.ks.length jk, .slice oa r.ats.length ja) := by
          intro w3 ok jk oa ja hx hb3
          obtain ⟨W4, hW4⟩ : ∃ W4, W4 = w3.alloc (.cells #[.int .i64 r.kd, .string (bs r.nm), .string (bs r.tx), .int .i64 r.pa, .slice ok r.ks.length jk, .slice oa r.ats.length ja, .bool r.gone] 34) := ⟨_, rfl⟩
          rw [← hW4]
          have s3 := hb3.size
          have hs4 : W4.heap.size = w3.heap.size + 1 := by rw [hW4]; simp
          have hb03 : Below W.heap.size W w3 := hb02.trans (hb3.mono (by omega))
          have hb04 : Below W.heap.size W W4 := by rw [hW4]; exact hb03.alloc (by omega) _
          have k4 : W4.heap[w3.heap.size]? = some (rcB (r, .slice ok r.ks.length jk, .slice oa r.ats.length ja)) := by rw [hW4]; exact World.alloc_heap_new w3 _
          have hm4 := hmet.move (hb04.block _ hom)
          obtain ⟨W5, hrun, how, hturn⟩ := hm4.own.store law_int Try.underlying104 (by rw [List.length_map]; unfold maxLen; omega) (key_int hid) unitElem_mk
          have hg5 := hturn.grown
          have s5 := hg5.size
          have keep5 : ∀ g, g < W4.heap.size → g ≠ m0 → W5.heap[g]? = W4.heap[g]? := fun g h1 h2 => hg5.block g h1 (fun e => h2 (by cases e; rfl))
          have keep0 : ∀ g, g < W.heap.size → g ≠ m0 → W5.heap[g]? = W.heap[g]? := fun g h1 h2 => (keep5 g (by omega) h2).trans (hb04.block g h1)
          have hlow : Below 0 W W5 := (hb04.mono (Nat.zero_le _)).grown hg5 (Nat.zero_le _) (fun _ _ => Nat.zero_le _)
          have hlt5 : ∀ k, (O k ∨ (W.heap.size ≤ k ∧ k < W5.heap.size)) → k < W5.heap.size := fun k hk => hk.elim (fun q => by have := hfx.lt k q; omega) And.right
          have hstep : ItStep O W (fun k => O k ∨ (W.heap.size ≤ k ∧ k < W5.heap.size)) W5 :=
            ⟨hlow, fun _ h => .inl h, fun _ hk => hk.imp _root_.id And.left, fun k hk hn => keep0 k hk (fun e => hn (by rw [e]; exact hfx.om)), hlt5⟩
          refine ⟨?_, W5, hrun, ?_, ?_, (keep5 _ (by omega) (by omega)).trans k4, _, ⟨fun _ h => .inl h, fun _ hk => hk.imp _root_.id And.left, hlt5, by omega, fun k hk hn => keep0 k (hfx.lt k hk) hn⟩,
            ⟨hlt5, .inl hfx.om, .inl hfx.oe, .inl hfx.oy, .inl hfx.oa, (keep0 _ hoe ne1).trans hfx.ce, (keep0 _ oy' ne2).trans hfx.cy, (keep0 _ oa' ne3).trans hfx.ca, ⟨D.put (kI id) (.agg []), ?_⟩⟩, hJ _ _ _ _ _ hj hstep, .inr ⟨by omega, by omega⟩, .inr ⟨Nat.le_refl _, by omega⟩, by omega, by omega, fun W' ht hk => hx.move fun g hg hF => ⟨trivial, ?_⟩⟩
          · have : W4.heap[eb]? = _ := (hb04.block _ hoe).trans hfx.ce
            simp [World.cell?, this]
          · have : W5.heap[yx]? = _ := (keep0 _ oy' ne2).trans hfx.cy
            simp [World.cell?, this]
          · have h1 : W1.heap[W.heap.size]? = some (.cells #[.bool a] 4 (0, 0)) := by rw [hW1]; exact World.alloc_heap_new W _
            have h2 : W5.heap[W.heap.size]? = _ := (keep5 _ (by omega) (by omega)).trans ((show W4.heap[W.heap.size]? = w3.heap[W.heap.size]? by rw [hW4]; exact Below.heap_alloc _ _ _ (by omega)).trans ((hb3.block _ (by omega)).trans ((hb2.block _ (by omega)).trans h1)))
            simp [World.cell?, h2]
          · rw [List.map_append]
            exact hm4.snoc how
          · rcases hF with hF | hF
            · have hz := zW g (.inl hF)
              rw [ht.z g (.inl hF), hb03.block g (by omega), hst.z g (.inl hF)]
            · have hF' : W2.heap.size ≤ g := hF
              rw [hk g (.inr ⟨by omega, by omega⟩) (by omega), keep5 g (by omega) (by omega), hW4, Below.heap_alloc _ _ _ hg]
        have KEY := Lib.hid key
        have HJ := Lib.hid hJ
        have HST := Lib.hid hSt
        have HY := Lib.hid hY
        have HXS := Lib.hid hxs
        have HJJ := Lib.hid hj
        have HFX := Lib.hid hfx
        have HB02 := Lib.hid hb02
        have HG1 := Lib.hid hg1
        have HG2 := Lib.hid hg2
        have HP0 := Lib.hid hp0
        have HP1 := Lib.hid hp1
        have HPR := Lib.hid hpre
        have HIH := Lib.hid ih
        have HSM := Lib.hid hsm
        have HWF := Lib.hid hwf
        refine (callsIn_wide (n := 9)).1 ?_
        refine callsIn_of_wp Try.func79 rfl trivial ?_ rfl
        simp only [Try.ntmps79, List.size_toArray, List.length_cons, List.length_nil, Nat.reduceAdd, Nat.reduceSub, Array.replicate_succ, Array.replicate_zero, List.push_toArray, List.append_toArray, List.nil_append, List.cons_append]
        clear ih hY hSt hJ hg hg1 hg2 hp0 hp1 hpre hxs hj hfx hmet hm1 hstep1 hb1 hb2 hb02 hW1 hW2 hst zW zW2 hR hP key hsm hwf hm0b
        gi_wp2_with (first
          | ((try refine ⟨hdd _, ?_⟩)
             gi_at_call 58
             refine HR.out.mono ?_
             rintro e w3 hq
             rw [HP.out] at hq
             obtain ⟨⟨r', va, vb'⟩, rfl, x1, x2, x3⟩ := hq
             obtain ⟨ok, jk, oa, ja, e1, e2⟩ := x2.form
             dsimp only [Option.getD] at e1 e2 x1
             subst e1 e2 x1
             obtain ⟨ce4, W5, hrun, cy5, cx5, kb5, O5, at5, fx5, j5, ob5, ox5, nb5, nx5, hrow⟩ := KEY.out w3 ok jk oa ja x2 x3
             obtain ⟨⟨y0, y1, y2, y3, y4, y5, y6⟩, _⟩ := rc_blk kb5
             dsimp only at y0 y1 y2 y3 y4 y5 y6
             obtain ⟨fn, tmps, assign, body, hy, hRD⟩ := HY.out O5 xs ⟨id, r', ok, jk, oa, ja, a, hid⟩ W5 8 fx5.lt j5 (by rw [List.map_append, HXS.out]; exact HP0.out)
             unfold Met.enc at hy
             dsimp only at hy
             have KB5 := Lib.hid kb5
             have AT5 := Lib.hid at5
             have FX5 := Lib.hid fx5
             have HROW := Lib.hid hrow
             have OB5 := Lib.hid ob5
             have OX5 := Lib.hid ox5
             clear x2 x3 kb5 at5 fx5 j5 hrow ob5 ox5
             simp only [Option.isSome_some]
             unfold rcV
             dsimp only))
        have hmm : (xs ++ [(⟨id, r', ok, jk, oa, ja, a, hid⟩ : Met)]).map Met.key = acc ++ [(id, a, r')] := by rw [List.map_append, HXS.out]; rfl
        have HMM := Lib.hid hmm
        obtain ⟨mm, hmk⟩ : ∃ mm : Met, mm = ⟨id, r', ok, jk, oa, ja, a, hid⟩ := ⟨_, rfl⟩
        rw [← hmk] at hRD HMM
        have HRD := Lib.hid hRD
        clear hmm hmk hRD
        refine HRD.out.mono ?_
        rintro e W6 ⟨z6, h6, (⟨rfl, j6⟩ | ⟨rfl, x6⟩)⟩
        · have at6 : AtOK m0 O W O5 W6 := ⟨AT5.out.up, AT5.out.new, fun k hk => Nat.lt_of_lt_of_le (AT5.out.lt k hk) z6, Nat.le_trans AT5.out.size z6, fun k hk hn => (h6 k (AT5.out.up k hk)).trans (AT5.out.keep k hk hn)⟩
          have fx6 := FX5.out.move (O' := O5) (W' := W6) (fun _ h => h) at6.lt h6
          have kb6 : W6.heap[w3.heap.size]? = some (rcB (r', .slice ok r'.ks.length jk, .slice oa r'.ats.length ja)) := (h6 _ OB5.out).trans KB5.out
          have kx6 : W6.cell? ⟨W.heap.size, 0, none⟩ = some (.bool a) := (World.cell?_of_block (w := W5) (w' := W6) (a := ⟨W.heap.size, 0, none⟩) (h6 _ OX5.out)).trans cx5
          have a5 : W6.cell? ⟨w3.heap.size, 5, none⟩ = some (.slice oa r'.ats.length ja) := (rc_blk kb6).1.2.2.2.2.2.1
          have hL1 := list1_any J Jx full HJ.out (fun _ => True) (goF look f) (goF_ext _ f) true r'.ats oa ja (Nat.le_trans HSM.out.2 (by decide))
            (fun z hz acc0 acc2 xs0 O0 W0 _ q1 q2 q3 q4 q5 => (cl1_any z W0 (by simp [World.cell?, q5.ca]) ((HIH.out z true acc0 acc2 xs0 O0 W0 (HWF.out z (.inr hz)) q1 q2 q3 q4 q5).mono fun e W' q => by
              obtain ⟨O', i1, i2⟩ := q
              rcases i2 with ⟨rfl, i2⟩ | ⟨rfl, i2⟩
              · exact ⟨true, rfl, O', i1, .inl ⟨rfl, i2⟩⟩
              · exact ⟨false, rfl, O', i1, .inr ⟨rfl, i2⟩⟩)).mono fun e W' ⟨_, _, q⟩ => q)
            (acc ++ [(id, a, r')]) acc1 (xs ++ [mm]) O5 W6 HG1.out HP1.out HMM.out j6 fx6 (fun _ _ => trivial)
            (fun O' ys W' q1 q2 => (HROW.out W' (HST.out _ _ _ q2) (fun k hk hn => (q1 k hk hn).trans (h6 k hk))).2)
          have HL1 := Lib.hid ((callsIn_wide (n := 8)).2 hL1)
          have AT6 := Lib.hid at6
          have KB6 := Lib.hid kb6
          have H6 := Lib.hid h6
          clear hL1 at6 fx6 kb6 h6 j6 y0 y1 y2 y3 y4 y5 y6 cy5 cx5 hy hrun
          gi_wp2_with (first
            | ((try refine ⟨hdd _, ?_⟩)
               gi_at_call 80
               refine HL1.out.mono ?_
               clear HL1
               rintro e W7 ⟨O7, at7, h7⟩
               have kb7 : W7.heap[w3.heap.size]? = some (rcB (r', .slice ok r'.ks.length jk, .slice oa r'.ats.length ja)) := (at7.keep _ OB5.out nb5).trans KB6.out
               have a4 : W7.cell? ⟨w3.heap.size, 4, none⟩ = some (.slice ok r'.ks.length jk) := (rc_blk kb7).1.2.2.2.2.1
               have AT7 := Lib.hid at7
               clear at7 kb7
               rcases h7 with ⟨rfl, ys, k7, j7, fx7⟩ | ⟨rfl, ys, k7, x7⟩))
          · have at7 := AT7.out
            have hk7 : ∀ k, O5 k → k ≠ m0 → W7.heap[k]? = W5.heap[k]? := fun k hk hn => (at7.keep k hk hn).trans (H6.out k hk)
            have kx7 : W7.cell? ⟨W.heap.size, 0, none⟩ = some (.bool a) := (World.cell?_of_block (w := W6) (w' := W7) (a := ⟨W.heap.size, 0, none⟩) (at7.keep _ OX5.out nx5)).trans kx6
            have hL2 := list2_any W.heap.size J Jx full HJ.out (fun W' => W'.cell? ⟨W.heap.size, 0, none⟩ = some (.bool a)) (goF look f) (goF_ext _ f) a r'.ks ok jk (Nat.le_trans HSM.out.1 (by decide))
              (fun z hz acc0 acc2 xs0 O0 W0 qe q1 q2 q3 q4 q5 => (cl2_any z W.heap.size a W0 (by simp [World.cell?, q5.ca]) qe ((HIH.out z a acc0 acc2 xs0 O0 W0 (HWF.out z (.inl hz)) q1 q2 q3 q4 q5).mono fun e W' q => by
                obtain ⟨O', i1, i2⟩ := q
                rcases i2 with ⟨rfl, i2⟩ | ⟨rfl, i2⟩
                · exact ⟨true, rfl, O', i1, .inl ⟨rfl, i2⟩⟩
                · exact ⟨false, rfl, O', i1, .inr ⟨rfl, i2⟩⟩)).mono fun e W' ⟨_, _, q⟩ => q)
              acc1 acc' ((xs ++ [mm]) ++ ys) O7 W7 HG2.out HPR.out k7 j7 fx7 (fun W' q => (World.cell?_of_block (w := W7) (w' := W') (a := ⟨W.heap.size, 0, none⟩) (q _ (at7.up _ OX5.out) nx5)).trans kx7)
              (fun O' zs W' q1 q2 => (HROW.out W' (HST.out _ _ _ q2) (fun k hk hn => (q1 k (at7.up k hk) hn).trans (hk7 k hk hn))).1)
            have HL2 := Lib.hid ((callsIn_wide (n := 8)).2 hL2)
            clear hL2 at7 fx7 j7 hk7
            gi_wp2_with (first
              | ((try refine ⟨hdd _, ?_⟩)
                 gi_at_call 80
                 refine HL2.out.mono ?_
                 clear HL2
                 rintro e W8 ⟨O8, at8, (⟨rfl, zs, k8, j8, fx8⟩ | ⟨rfl, zs, k8, x8⟩)⟩))
            · go_ret
              refine ⟨O8, (AT6.out.trans AT7.out).trans at8, .inl ⟨rfl, mm :: (ys ++ zs), ?_, ?_, fx8⟩⟩
              · simpa using k8
              · simpa using j8
            · go_ret
              refine ⟨O8, (AT6.out.trans AT7.out).trans at8, .inr ⟨rfl, mm :: (ys ++ zs), ?_, ?_⟩⟩
              · simpa using k8
              · simpa using x8
          · go_ret
            refine ⟨O7, AT6.out.trans AT7.out, .inr ⟨rfl, mm :: ys, ?_, ?_⟩⟩
            · simpa using k7
            · simpa using x7
        · gi_wp2
          go_ret
          refine ⟨O5, ⟨AT5.out.up, AT5.out.new, fun k hk => Nat.lt_of_lt_of_le (AT5.out.lt k hk) z6, Nat.le_trans AT5.out.size z6, fun k hk hn => (h6 k (AT5.out.up k hk)).trans (AT5.out.keep k hk hn)⟩, .inr ⟨rfl, [mm], by rw [HMM.out]; exact HP0.out, x6⟩⟩
end
end Go.Proofs.Ytkackejipgabfaa.Char

/- What a view's through hands to a loop. -/
namespace Go.Proofs.Ytkackejipgabfaa.Char
open Go.RowKit Go.Lib Go.Shelf
attribute [local go_sem] Oper.semAt_some

set_option maxRecDepth 100000 in
set_option maxHeartbeats 2000000 in
theorem through_any (vp : Option Addr) (id : Int) (w : World) :
    Calls Try.prog 46 #[.pointer vp, .int .i64 id] w fun e w' => e = .returned (.func (.func 78) #[] #[.pointer (some ⟨w.heap.size, 0, none⟩), .pointer (some ⟨w.heap.size + 1, 0, none⟩)]) ∧ w' = (w.alloc (.cells #[.pointer vp] 38)).alloc (.cells #[.int .i64 id] 3) := by
  have hmf : ∀ (fn : Fn) (first cap : Array Value) (w : World), (Instr.makeFunc fn first cap).run Try.prog w = .ok (.func fn first cap) w := fun _ _ _ _ => rfl
  go_enter Try.func46, Try.ntmps46
  go_wp2_with fail
  go_ret
  exact ⟨rfl, rfl⟩
set_option maxRecDepth 100000 in
set_option maxHeartbeats 4000000 in
theorem through_seq {Z : Nat → Prop} {w0 : World} {vp : Option Addr} {look : Int → Option Rc} {vx ix : Nat} (HH : ThH Z w0 vp look vx) (id : Int) (hid : (Lit.int .i64 id).wf = true) (f : Nat) (full : List Gn) (hg : goF look f id false [] = some full) (hfl : full.length ≤ 100000000)
    (w : World) (hix : w.heap[ix]? = some (.cells #[.int .i64 id] 3 (0, 0))) :
    SeqOwn Try.prog 78 #[.pointer (some ⟨vx, 0, none⟩), .pointer (some ⟨ix, 0, none⟩)] Met.enc Met.key (ThS Z w0 vx) full w := by
  intro l J Jx W hW hSt hJ hJx h0 hY
  have hmf : ∀ (fn : Fn) (first cap : Array Value) (w : World), (Instr.makeFunc fn first cap).run Try.prog w = .ok (.func fn first cap) w := fun _ _ _ _ => rfl
  have hmk : ∀ w, (Instr.makeMap 104 none).run Try.prog w = .ok (.map (some w.heap.size)) (w.alloc (.map #[] 0)) := fun w => run_makeMap _ w
  have ci : W.cell? ⟨ix, 0, none⟩ = some (.int .i64 id) := by
    have : W.heap[ix]? = _ := (hW.block ix (Array.getElem?_eq_some_iff.1 hix).1).trans hix
    simp [World.cell?, this]
  have eF := enters_of Try.func79 (by kernel_rfl) rfl
  have hil : ix < W.heap.size := cell_lt ci
  obtain ⟨W5, hW5⟩ : ∃ W5, W5 = (((W.alloc (.cells #[.func (.yield l) #[] #[]] 155)).alloc (.map #[] 0)).alloc (.cells #[.map (some (W.heap.size + 1))] 104)).alloc (.cells #[.func (.func 79) #[] #[.pointer (some ⟨W.heap.size + 1 + 1, 0, none⟩), .pointer (some ⟨vx, 0, none⟩), .pointer (some ⟨W.heap.size, 0, none⟩), .pointer (some ⟨W.heap.size + 1 + 1 + 1, 0, none⟩)]] 156) := ⟨_, rfl⟩
  have hb5 : Below W.heap.size W W5 := by
    rw [hW5]
    exact ((((Below.refl _ W).alloc (Nat.le_refl _) _).alloc (by simp) _).alloc (by simp; omega) _).alloc (by simp; omega) _
  have hs5 : W5.heap.size = W.heap.size + 4 := by rw [hW5]; simp
  have hst0 := hSt _ _ _ h0
  have hstep : ItStep (fun _ => False) W (fun k => W.heap.size ≤ k ∧ k < W5.heap.size) W5 :=
    ⟨hb5.mono (Nat.zero_le _), fun _ h => h.elim, fun _ h => .inr h.1, fun k hk _ => hb5.block k hk, fun _ h => h.2⟩
  have ky : W5.heap[W.heap.size]? = some (.cells #[.func (.yield l) #[] #[]] 155 (0, 0)) := by
    rw [hW5, Below.heap_alloc _ _ _ (by simp; omega), Below.heap_alloc _ _ _ (by simp; omega), Below.heap_alloc _ _ _ (by simp)]
    exact World.alloc_heap_new W _
  have ke : W5.heap[W.heap.size + 1 + 1]? = some (.cells #[.map (some (W.heap.size + 1))] 104 (0, 0)) := by
    rw [hW5, Below.heap_alloc _ _ _ (by simp)]
    have := World.alloc_heap_new ((W.alloc (.cells #[.func (.yield l) #[] #[]] 155)).alloc (.map #[] 0)) (.cells #[.map (some (W.heap.size + 1))] 104)
    simpa using this
  have ka : W5.heap[W.heap.size + 1 + 1 + 1]? = some (.cells #[atC (W.heap.size + 1 + 1) vx W.heap.size (W.heap.size + 1 + 1 + 1)] 156 (0, 0)) := by
    rw [hW5]
    have := World.alloc_heap_new (((W.alloc (.cells #[.func (.yield l) #[] #[]] 155)).alloc (.map #[] 0)).alloc (.cells #[.map (some (W.heap.size + 1))] 104)) (.cells #[atC (W.heap.size + 1 + 1) vx W.heap.size (W.heap.size + 1 + 1 + 1)] 156)
    unfold atC at this ⊢
    simpa using this
  have km : MetI W5 (W.heap.size + 1) [] (.map []) := by
    have := MetI.start (W.alloc (.cells #[.func (.yield l) #[] #[]] 155))
    rw [World.size_alloc] at this
    refine this.move ?_
    rw [hW5, Below.heap_alloc _ _ _ (by simp), Below.heap_alloc _ _ _ (by simp)]
  have hfx : Fx l (W.heap.size + 1) (W.heap.size + 1 + 1) vx W.heap.size (W.heap.size + 1 + 1 + 1) (fun k => W.heap.size ≤ k ∧ k < W5.heap.size) [] W5 :=
    ⟨fun _ h => h.2, ⟨by omega, by omega⟩, ⟨by omega, by omega⟩, ⟨by omega, by omega⟩, ⟨by omega, by omega⟩, ke, ky, ka, _, km⟩
  have hC := at_through HH J Jx full hSt hJ (fun O pre x W m h1 h2 h3 => hY O pre x W m h1 h2 h3) hfl f id false [] full [] _ W5 hid hg (List.prefix_refl _) rfl (hJ _ _ _ _ _ h0 hstep) hfx
  obtain ⟨P, hP⟩ : ∃ P, P = AtP l (W.heap.size + 1) (W.heap.size + 1 + 1) vx W.heap.size (W.heap.size + 1 + 1 + 1) J Jx full (fun k => W.heap.size ≤ k ∧ k < W5.heap.size) W5 [] full := ⟨_, rfl⟩
  rw [← hP] at hC
  have HP := Lib.hid hP
  have ci5 : W5.cell? ⟨ix, 0, none⟩ = some (.int .i64 id) := (hb5.cell (p := ⟨ix, 0, none⟩) hil).trans ci
  rw [hW5] at hC ci5
  have HC := Lib.hid hC
  clear hC hfx km ka ke ky hstep hst0 hb5 hs5 hW5 hP hY hJ hJx hSt h0 hW
  go_enter Try.func78, Try.ntmps78
  go_wp2_with (first
    | (go_at_call 79
       refine HC.out.mono ?_
       rintro e w2 hq
       rw [HP.out] at hq
       obtain ⟨O', i1, i2⟩ := hq
       rcases i2 with ⟨rfl, i2⟩ | ⟨rfl, i2⟩))
  · go_end0
    obtain ⟨ys, k1, k2, _⟩ := i2
    exact ⟨⟨_, rfl⟩, O', i1.lt, .inl ⟨ys, by simpa using k1, by simpa using k2⟩⟩
  · go_end0
    obtain ⟨ys, k1, k2⟩ := i2
    exact ⟨⟨_, rfl⟩, O', i1.lt, .inr ⟨ys, by simpa using k1, by simpa using k2⟩⟩
end Go.Proofs.Ytkackejipgabfaa.Char

/- The walk of a view's All. -/
namespace Go.Proofs.Ytkackejipgabfaa.Char
open Go.RowKit Go.Lib Go.Shelf
attribute [local go_sem] Oper.semAt_some

/-- what a view tells: its pointer vp, all that it reads lies in Z -/
structure VH (Z : Nat → Prop) (w : World) (vp : Option Addr) (look : Int → Option Rc) : Prop where
  tell : ∀ W, (∀ g, Z g → W.heap[g]? = w.heap[g]?) → w.heap.size ≤ W.heap.size → ∀ id, (Lit.int .i64 id).wf = true → Calls Try.prog 58 #[.pointer vp, .int .i64 id] W (RecPost Z W (look id))
  sm : ∀ id r, look id = some r → RcSm r
  zB : ∀ g, Z g → g < w.heap.size
  wf : ∀ id r, look id = some r → ∀ z, z ∈ r.ks ∨ z ∈ r.ats → (Lit.int .i64 z).wf = true
theorem VH.below {Z : Nat → Prop} {w w' : World} {vp : Option Addr} {look : Int → Option Rc} (h : VH Z w vp look) (hb : Below w.heap.size w w') : VH Z w' vp look :=
  ⟨fun W hz hs => h.tell W (fun g hg => (hz g hg).trans (hb.block g (h.zB g hg))) (Nat.le_trans hb.size hs), h.sm, fun g hg => Nat.lt_of_lt_of_le (h.zB g hg) hb.size, h.wf⟩
theorem VH.th {Z : Nat → Prop} {w : World} {vp : Option Addr} {look : Int → Option Rc} (h : VH Z w vp look) {vx : Nat} (hv : w.heap[vx]? = some (.cells #[.pointer vp] 38 (0, 0))) : ThH Z w vp look vx := ⟨h.tell, h.sm, hv, h.zB, h.wf⟩
theorem ItStep.below {B : Nat} {w W W' : World} {O O' : Nat → Prop} (hb : Below B w W) (hB : B ≤ w.heap.size) (hs : ItStep O W O' W') (hO : ∀ k, O k → B ≤ k) : Below B w W' :=
  ⟨hs.low.os.trans hb.os, hs.low.tape.trans hb.tape, hs.low.output.trans hb.output, Nat.le_trans hb.size hs.low.size, fun k hk => (hs.keep k (by have := hb.size; omega) (fun ho => by have := hO k ho; omega)).trans (hb.block k hk)⟩
/-- a box at A that holds a slice of numbers of one's own, outside of O -/
def Col (A B0 : Nat) (O : Nat → Prop) (zs : List Int) (W : World) : Prop := ∃ v, W.cell? ⟨A, 0, none⟩ = some v ∧ W.frozen? ⟨A, 0, none⟩ = false ∧ OwnsInt B0 W v zs ∧ ∀ g, v.ownBlock = some g → ¬ O g
theorem Col.step {A B0 : Nat} {O O' : Nat → Prop} {zs : List Int} {W W' : World} (h : Col A B0 O zs W) (hs : ItStep O W O' W') (hA : A < W.heap.size) (hn : ¬ O A) : Col A B0 O' zs W' := by
  obtain ⟨v, k3, k4, k6, k7⟩ := h
  have e := hs.keep A hA hn
  refine ⟨v, (World.cell?_of_block (w := W) (a := ⟨A, 0, none⟩) e).trans k3, (World.frozen?_of_block (w := W) (a := ⟨A, 0, none⟩) e).trans k4, k6.keep fun g hg => hs.keep g (k6.blk hg).2 (k7 g hg), fun g hg ho => ?_⟩
  rcases hs.new g ho with q | q
  · exact k7 g hg q
  · have := (k6.blk hg).2; omega
theorem Col.push {A B0 : Nat} {O : Nat → Prop} {zs : List Int} {W w1 : World} {v v' : Value} {z : Int} (hAB : A < B0) (k7 : ∀ g, v.ownBlock = some g → ¬ O g) (hO : ∀ k, O k → k < W.heap.size) (c1 : w1.cell? ⟨A, 0, none⟩ = some v) (c2 : w1.frozen? ⟨A, 0, none⟩ = false)
    (q1 : OwnsInt B0 w1 v' (zs ++ [z])) (q3 : ∀ k, k < W.heap.size → some k ≠ v.ownBlock → w1.heap[k]? = W.heap[k]?) (q4 : ∀ g, v'.ownBlock = some g → v.ownBlock = some g ∨ W.heap.size ≤ g) :
    Col A B0 O (zs ++ [z]) (w1.setCell ⟨A, 0, none⟩ v') ∧ ∀ k, k < W.heap.size → k ≠ A → v.ownBlock ≠ some k → (w1.setCell ⟨A, 0, none⟩ v').heap[k]? = W.heap[k]? := by
  refine ⟨⟨v', World.cell?_setCell_same' _ _ _ (by rw [c1]; rfl), by rw [World.frozen?_setCell]; exact c2, q1.keep fun g hg => heap_set_ne (a := ⟨A, 0, none⟩) (by have := (q1.blk hg).1; show g ≠ A; omega), fun g hg ho => ?_⟩, fun k h1 h2 h3 => (heap_set_ne (a := ⟨A, 0, none⟩) h2).trans (q3 k h1 fun e => h3 e.symm)⟩
  rcases q4 g hg with q | q
  · exact k7 g q ho
  · have := hO g ho; omega
/-- the loop of All -/
structure AllI (w WL : World) (vp : Option Addr) (O : Nat → Prop) (pre : List Met) (W : World) : Prop where
  bel : Below w.heap.size w W
  size : WL.heap.size ≤ W.heap.size
  lowO : ∀ k, O k → WL.heap.size ≤ k
  box : Col w.heap.size WL.heap.size O (pre.map (·.id)) W
  vb : W.heap[w.heap.size + 1]? = some (.cells #[.pointer vp] 38 (0, 0))
theorem AllI.step {w WL : World} {vp : Option Addr} {O O' : Nat → Prop} {pre : List Met} {W W' : World} (hw : w.heap.size + 2 < WL.heap.size) (h : AllI w WL vp O pre W) (hs : ItStep O W O' W') : AllI w WL vp O' pre W' := by
  have h1 := h.size
  have keep : ∀ k, k < WL.heap.size → W'.heap[k]? = W.heap[k]? := fun k hk => hs.keep k (by omega) (fun ho => by have := h.lowO k ho; omega)
  refine ⟨ItStep.below h.bel (Nat.le_refl _) hs (fun k ho => by have := h.lowO k ho; omega), Nat.le_trans h1 hs.low.size, fun k ho => ?_, h.box.step hs (by omega) (fun ho => by have := h.lowO _ ho; omega), (keep _ (by omega)).trans h.vb⟩
  rcases hs.new k ho with q | q
  · exact h.lowO k q
  · omega
set_option maxRecDepth 100000 in
set_option maxHeartbeats 8000000 in
theorem all_gen {Z : Nat → Prop} {w : World} {vp : Option Addr} {look : Int → Option Rc} (h : VH Z w vp look) (f : Nat) (full : List Gn) (hg : goF look f 1 false [] = some full) (hfl : full.length ≤ 10000000) :
    Calls Try.prog 15 #[.pointer vp] w fun e w' => ∃ u, e = .returned u ∧ OwnsInt w.heap.size w' u (full.map (·.1)) ∧ Below w.heap.size w w' := by
  have HT := fun (W : World) => Lib.hid ((callsIn_wide (n := 19)).2 (through_any vp 1 W))
  have H := Lib.hid h
  clear h
  refine (callsIn_wide (n := 20)).1 ?_
  refine callsIn_of_wp_marks Try.func15 rfl trivial ?_ rfl
  simp only [Try.ntmps15, List.size_toArray, List.length_cons, List.length_nil, Nat.reduceAdd, Nat.reduceSub, Array.replicate_succ, Array.replicate_zero, List.push_toArray, List.append_toArray, List.nil_append, List.cons_append]
  gi_wp2_with (first
    | (refine ⟨trivial, ?_⟩; gi_at_call 46; refine (HT _).out.mono ?_; rintro e w' ⟨rfl, rfl⟩))
  obtain ⟨WL, hWL⟩ : ∃ WL, WL = ((w.alloc (.cells #[.slice none 0 0] 27)).alloc (.cells #[.pointer vp] 38)).alloc (.cells #[.int .i64 1] 3) := ⟨_, rfl⟩
  rw [← hWL]
  have hB0 : Below w.heap.size w WL := by rw [hWL]; exact (((Below.refl _ _).alloc (Nat.le_refl _) _).alloc (by simp) _).alloc (by simp; omega) _
  have hsL : WL.heap.size = w.heap.size + 3 := by rw [hWL]; simp
  have hbx : WL.cell? ⟨w.heap.size, 0, none⟩ = some (.slice none 0 0) ∧ WL.frozen? ⟨w.heap.size, 0, none⟩ = false := by rw [hWL]; exact ⟨by go_simp, by go_simp⟩
  have hbv : WL.heap[w.heap.size + 1]? = some (.cells #[.pointer vp] 38 (0, 0)) := by
    rw [hWL, Below.heap_alloc _ _ _ (by simp)]
    have := World.alloc_heap_new (w.alloc (.cells #[.slice none 0 0] 27)) (.cells #[.pointer vp] 38)
    simpa using this
  have hbi : WL.heap[w.heap.size + 2]? = some (.cells #[.int .i64 1] 3 (0, 0)) := by
    rw [hWL]
    have := World.alloc_heap_new ((w.alloc (.cells #[.slice none 0 0] 27)).alloc (.cells #[.pointer vp] 38)) (.cells #[.int .i64 1] 3)
    simpa using this
  have HTH := (H.out.below hB0).th hbv
  refine wpIn_rangeFunc_set (n := 20) (gf := 78) (lb := #[.pointer (some ⟨w.heap.size + 1, 0, none⟩), .pointer (some ⟨w.heap.size + 2, 0, none⟩)]) rfl (enters_of Try.func78 (by kernel_rfl) rfl)
    (through_seq HTH 1 (by decide) f full hg (by omega) WL hbi) (Below.refl _ _) (fun _ => rfl)
    (fun O pre W => AllI w WL vp O pre W) (fun _ _ _ _ => False) (fun O pre W O' W' h hs => h.step (by omega) hs) (fun _ _ _ _ _ _ h _ => h.elim) ?st ?start
    (fun _ x a' _ => a' = { tmps := #[.pointer vp, undef, .slice none 0 0, .pointer (some ⟨w.heap.size, 0, none⟩), .int .i64 x.id, .pointer vp, .func (.func 78) #[] #[.pointer (some ⟨w.heap.size + 1, 0, none⟩), .pointer (some ⟨w.heap.size + 2, 0, none⟩)], .int .i64 x.id, .agg #[.int .i64 x.r.kd, .string (bs x.r.nm), .string (bs x.r.tx), .int .i64 x.r.pa, .slice x.ok x.r.ks.length x.jk, .slice x.oa x.r.ats.length x.ja, .bool x.r.gone, .bool x.aside], undef, undef, undef, undef, undef], defers := [] })
    (fun _ _ _ _ _ _ h _ => h) ?assign ?body ?done ?stop
  case st =>
    intro O pre W hi
    refine ⟨fun g hg => ?_, hi.size⟩
    rcases hg with hg | rfl
    · have := H.out.zB g hg
      exact (hi.bel.block g this).trans (hB0.block g this).symm
    · exact hi.vb.trans hbv.symm
  case start => exact ⟨hB0, Nat.le_refl _, fun _ h => h.elim, ⟨_, hbx.1, hbx.2, OwnsInt.nil _ _, fun g hg => (by cases hg)⟩, hbv⟩
  case assign =>
    rintro l m O pre x W K hO hi hK
    simp only [Met.enc]
    gi_wp2
    exact hK _ _ (Nat.le_refl _) (fun _ _ => rfl) hi rfl
  case body =>
    rintro l m O pre x a' W hO hi rfl hpx
    have hle := hpx.length_le
    rw [List.length_map, List.length_append, List.length_singleton] at hle
    obtain ⟨v, k3, k4, k6, k7⟩ := hi.box
    obtain ⟨o, j, rfl⟩ := k6.form
    rw [List.length_map] at k3 k6 k7
    have HI := Lib.hid hi
    have HK6 := Lib.hid k6
    have HK7 := Lib.hid k7
    have HO := Lib.hid hO
    have hz := hi.size
    clear hpx hi k6 k7 hO
    gi_wp2_with (first
      | (refine wpListIn_pushInt WL.heap.size rfl (.tmp 9) (.tmp 11) rfl x.id HK6.out rfl rfl (by omega) (by rw [List.length_map]; omega) ?_
         intro v' w1 q1 q2 q3 q4 q5
         have c1 := (World.cell?_of_block (w := W) (w' := w1) (a := ⟨w.heap.size, 0, none⟩) (q3 _ (by show w.heap.size < _; omega) (fun e => by have := (HK6.out.blk e.symm).1; simp at this; omega))).trans k3
         have c2 := (World.frozen?_of_block (w := W) (w' := w1) (a := ⟨w.heap.size, 0, none⟩) (q3 _ (by show w.heap.size < _; omega) (fun e => by have := (HK6.out.blk e.symm).1; simp at this; omega))).trans k4
         obtain ⟨o2, j2, rfl⟩ := q1.form
         have Q1 := Lib.hid q1
         have Q2 := Lib.hid q2
         have Q3 := Lib.hid q3
         have Q4 := Lib.hid q4
         rw [show (List.map (fun x => x.id) pre ++ [x.id]).length = pre.length + 1 by simp]
         clear q1 q2 q3 q4)
      | fail)
    obtain ⟨p1, p2⟩ := Col.push (O := O) (zs := pre.map (·.id)) (W := W) (v := .slice o pre.length j) (z := x.id) (show w.heap.size < WL.heap.size by omega) HK7.out HO.out c1 c2 Q1.out Q3.out Q4.out
    rw [show (List.map (fun x => x.id) pre ++ [x.id]).length = pre.length + 1 by simp] at p1 p2
    have hne : ∀ k, O k → k ≠ w.heap.size := fun k hk => by have := HI.out.lowO k hk; omega
    refine ⟨by rw [World.size_setCell]; exact q5, fun k hk => p2 k (HO.out k hk) (hne k hk) (fun e => HK7.out k e hk), ?_, by rw [World.size_setCell]; omega, HI.out.lowO, ?_, (p2 (w.heap.size + 1) (by omega) (by omega) (fun e => by have := (HK6.out.blk e).1; omega)).trans HI.out.vb⟩
    · exact (HI.out.bel.trans (Q2.out.mono (by omega))).setCell (p := ⟨w.heap.size, 0, none⟩) (Nat.le_refl _) _
    · rw [List.map_append]
      exact p1
  case done =>
    rintro O xs W hO hD hxs hi hK
    obtain ⟨v, k3, k4, k6, k7⟩ := hi.box
    have hids : xs.map (·.id) = full.map (·.1) := by rw [← hxs, List.map_map]; rfl
    rw [hids] at k6
    obtain ⟨o, j, rfl⟩ := k6.form
    rw [List.length_map] at k3 k6 k7
    have HK6 := Lib.hid k6
    have HK7 := Lib.hid k7
    have HI := Lib.hid hi
    clear hi k6 k7
    gi_wp2
    refine ⟨by simp, .inl ⟨_, _, rfl, run_takeDeferred hK, ?_⟩⟩
    exact ⟨_, results_tmp rfl _ _ _, _, rfl, (HK6.out.keep fun g hg => World.putObj_heap_other (fun e => HK7.out g hg (by rw [e]; exact hD))).weak (B' := w.heap.size) (B := WL.heap.size) (by omega), below_putObj HI.out.bel (by show w.heap.size ≤ WL.heap.size; omega) _⟩
  case stop => rintro O c pre W _ _ _ h _; exact h.elim
end Go.Proofs.Ytkackejipgabfaa.Char
