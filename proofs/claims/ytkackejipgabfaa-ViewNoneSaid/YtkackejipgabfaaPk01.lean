/- UpTo9 RefS RefFr Push PushVe Made9 PStM RangeFix Nodes9 -/
import Derived.Test.YtkackejipgabfaaPk00
import Derived.Laws.AppendOwn
import Derived.OwnWalk
import Derived.Maps.AppendAt
import Derived.Deep.AppendLies
import Derived.Deep.RegionLaw
import Derived.LaidEqlPtr
import Derived.Maps.OwnSet
import Derived.Maps.Ext
import Derived.Lib.SlKeysI
import Derived.RangeFuncNested
import Derived.RangeFuncWrites
import Derived.Test.YtkackejipgabfaaProg
import Derived.RangeFuncBox
/- The walks of numbers, upTo and swept. -/
namespace Go.Proofs.Ytkackejipgabfaa.Char
open Go.RowKit Go.Lib Go.Sort

set_option maxRecDepth 100000 in
set_option maxHeartbeats 2000000 in
theorem pred_low (w : World) : PredAt Try.prog 113 #[] (Value.int .i64) (fun x => decide (x < 1)) w := fun W x _ => by
  show Calls Try.prog 113 #[.int .i64 x] W _
  go_enter Try.func113, Try.ntmps113
  go_wp2
  all_goals (go_ret; exact ⟨rfl, 0, rfl⟩)
set_option maxRecDepth 100000 in
set_option maxHeartbeats 2000000 in
theorem numbers_any (zs : List Int) (F : Nat → Prop) (o : Option Addr) (j : Nat) (w : World) (hz : zs.length ≤ 2 ^ 62) (h : IntsOn w F (.slice o zs.length j) zs) :
    Calls Try.prog 86 #[.slice o zs.length j] w fun e w' => e = .returned (.bool (!lowL zs)) ∧ ∃ n, w' = w.drewN n := by
  have hC : Calls Try.prog 108 #[.slice o zs.length j, .func (.func 113) #[] #[]] w fun e w' => e = .returned (.bool (lowL zs)) ∧ ∃ q, w' = w.drewN q := by
    obtain ⟨o', i', j', e1, e2, e3⟩ := h
    cases e1
    rcases e3 with rfl | ⟨g, off, rfl, _, hc⟩
    · have := AnyE.slices_ContainsFunc_empty containsA o j (.func (.func 113) #[] #[]) w
      refine Calls.mono this ?_
      rintro e w' ⟨rfl, rfl⟩
      exact ⟨rfl, 0, rfl⟩
    · have := AnyE.slices_ContainsFunc containsA (Value.int .i64) (fun x => decide (x < 1)) 113 #[] (enters_of Try.func113 (by kernel_rfl) rfl) g off zs.length j zs w (pred_low w) (Nat.le_refl _) (by omega)
        (fun k hk => by rw [hc k hk, getElem!_pos zs k hk, List.getD_eq_getElem?_getD, List.getElem?_eq_getElem hk]; rfl)
      rw [List.take_length] at this
      exact this
  generalize lowL zs = r at hC ⊢
  clear h
  go_enter Try.func86, Try.ntmps86
  go_wp2_with (go_at_call 108; refine hC.mono ?_; rintro e w' ⟨rfl, q, rfl⟩)
  go_ret
  exact ⟨rfl, q, rfl⟩

set_option maxRecDepth 100000 in
set_option maxHeartbeats 4000000 in
/-- the closure of upTo -/
theorem up_closure (ba bx g off n cap i y t : Nat) (W : World) (hi : i < n) (ha : W.cell? ⟨ba, 0, none⟩ = some (.slice (some ⟨g, off, none⟩) n cap)) (hx : W.cell? ⟨bx, 0, none⟩ = some (.int .u64 (t : Int))) (hc : W.cell? ⟨g, off + i * 8, none⟩ = some (.int .u64 (y : Int))) :
    Calls Try.prog 136 (#[.int .i64 i] ++ #[.pointer (some ⟨ba, 0, none⟩), .pointer (some ⟨bx, 0, none⟩)]) W fun e w' => e = .returned (.bool (decide (t < y))) ∧ ∃ q, w' = W.drewN q := by
  have hiz : (i : Int) < (n : Int) := by omega
  go_enter Try.func136, Try.ntmps136
  go_wp2
  go_region
  all_goals go_wp2
  all_goals go_ret
  all_goals exact ⟨by first | rfl | simp, 1, rfl⟩
/-- how many versions at the beginning are not above a time -/
def upN (t : Nat) (xs : List VeV) : Nat := (xs.takeWhile fun x => decide (x.1 ≤ t)).length
/-- versions that rise -/
def upX (xs : List VeV) : Prop := xs.Pairwise fun a b => a.1 < b.1
theorem upX_iff (xs : List VeV) : upX xs ↔ upV (xs.map toVe) := by unfold upX upV; rw [List.pairwise_map]; rfl
theorem lowV_up (t : Nat) (xs : List VeV) : lowV t (xs.map toVe) = (xs.take (upN t xs)).map toVe := by
  unfold lowV upN
  rw [List.takeWhile_map]
  congr 1
  have key : ∀ l : List VeV, l.takeWhile (fun x => decide (x.1 ≤ t)) = l.take (l.takeWhile fun x => decide (x.1 ≤ t)).length := by
    intro l
    induction l with
    | nil => rfl
    | cons x r ih =>
      rw [List.takeWhile_cons]
      split
      · rw [List.length_cons, List.take_succ_cons, ← ih]
      · rfl
  exact key xs
theorem upN_le (t : Nat) (xs : List VeV) : upN t xs ≤ xs.length := (List.takeWhile_sublist _).length_le
theorem count_up (t : Nat) : ∀ {xs : List VeV}, upX xs → xs.countP (fun x => !decide (t < x.1)) = upN t xs
  | [], _ => rfl
  | x :: r, h => by
    obtain ⟨h1, h2⟩ := List.pairwise_cons.1 h
    have ih := count_up t h2
    unfold upN at ih ⊢
    rw [List.countP_cons, List.takeWhile_cons]
    by_cases hx : x.1 ≤ t
    · have hx2 : ¬ t < x.1 := by omega
      simp [hx, hx2, ← ih]
    · have hx2 : t < x.1 := by omega
      simp only [hx, hx2, decide_true, decide_false, Bool.not_true, Bool.false_eq_true, if_false, List.length_nil, Nat.add_zero]
      exact List.countP_eq_zero.2 (fun y hy => by have := h1 y hy; simp; omega)
theorem count_range_up (t : Nat) {xs : List VeV} (h : upX xs) : (List.range xs.length).countP (fun i => !decide (t < (xs.getD i (0, rcV0)).1)) = upN t xs := by
  rw [← count_up t h]
  have e : xs = (List.range xs.length).map fun i => xs.getD i (0, rcV0) := by
    apply List.ext_getElem
    · simp
    · intro i h1 h2
      simp [List.getD_eq_getElem?_getD, List.getElem?_eq_getElem h1]
  conv => rhs; rw [e, List.countP_map]
  rfl
theorem upX_at {xs : List VeV} (h : upX xs) {a b : Nat} (hab : a ≤ b) (hb : b < xs.length) : (xs.getD a (0, rcV0)).1 ≤ (xs.getD b (0, rcV0)).1 := by
  rcases Nat.lt_or_eq_of_le hab with hlt | rfl
  · have := List.pairwise_iff_getElem.1 h a b (by omega) hb hlt
    rw [List.getD_eq_getElem?_getD, List.getElem?_eq_getElem (by omega), List.getD_eq_getElem?_getD, List.getElem?_eq_getElem hb]
    exact Nat.le_of_lt this
  · exact Nat.le_refl _
set_option maxRecDepth 100000 in
set_option maxHeartbeats 4000000 in
theorem upTo_any (t : Nat) (xs : List VeV) (F : Nat → Prop) (o : Option Addr) (j : Nat) (w : World) (hup : upX xs) (hn : xs.length ≤ 2 ^ 61) (h : VsOn w F (.slice o xs.length j) xs) :
    Calls Try.prog 115 #[.slice o xs.length j, .int .u64 (t : Int)] w fun e w' => e = .returned (.int .i64 (upN t xs : Int)) ∧ Below w.heap.size w w' := by
  obtain ⟨W0, hW0⟩ : ∃ W0, W0 = (w.alloc (.cells #[.slice o xs.length j] 109)).alloc (.cells #[.int .u64 (t : Int)] 48) := ⟨_, rfl⟩
  have hsize : W0.heap.size = w.heap.size + 1 + 1 := by rw [hW0]; simp
  have hB0 : Below w.heap.size w W0 := by rw [hW0]; exact ((Below.refl _ w).alloc (Nat.le_refl _) _).alloc (by simp) _
  have ca : W0.cell? ⟨w.heap.size, 0, none⟩ = some (.slice o xs.length j) := by rw [hW0]; exact cell_alloc_sl _ (cell_new_sl w _ _)
  have cx : W0.cell? ⟨w.heap.size + 1, 0, none⟩ = some (.int .u64 (t : Int)) := by rw [hW0]; have := cell_new_sl (w.alloc (.cells #[.slice o xs.length j] 109)) (.int .u64 (t : Int)) 48; rwa [World.size_alloc] at this
  have eg : ∀ args w, (callFunc 136 args).run Try.prog w = .ok (.enter 136 args) w := enters_of Try.func136 (by kernel_rfl) rfl
  have hS := Any.sort_Search searchA 136 #[.pointer (some ⟨w.heap.size, 0, none⟩), .pointer (some ⟨w.heap.size + 1, 0, none⟩)] xs.length (fun i => decide (t < (xs.getD i (0, rcV0)).1)) W0 eg (by omega)
    (fun m os i hi => by
      obtain ⟨g, off, rfl, _, hve, _⟩ := h.reads i hi
      have hgl := cell_lt hve.1
      have cc : W0.cell? ⟨g, off + i * 8, none⟩ = some (.int .u64 (((xs.getD i (0, rcV0)).1 : Nat) : Int)) := by
        rw [List.getD_eq_getElem?_getD, List.getElem?_eq_getElem hi]
        exact (hB0.cell (p := ⟨g, off + i * 8, none⟩) hgl).trans hve.1
      exact (up_closure w.heap.size (w.heap.size + 1) g off xs.length j i _ t _ hi (cell_grown (by simp [hsize]; omega) ca m os) (cell_grown (by simp [hsize]) cx m os) (cell_grown (by simp [hsize]; have := cell_lt hve.1; simp at this; omega) cc m os)).mono
        fun _ _ ⟨he, q, hq⟩ => ⟨he, q, #[], by rw [hq, grow_empty]⟩)
    (fun a b hab hb hpa => by have := upX_at hup hab hb; have := of_decide_eq_true hpa; exact decide_eq_true (by omega))
  rw [count_range_up t hup] at hS
  change Calls Try.prog 135 _ _ _ at hS
  clear ca cx h
  generalize upN t xs = r at hS ⊢
  go_enter Try.func115, Try.ntmps115
  go_wp2_with (go_at_call 135; rw [← hW0]; refine hS.mono ?_; rintro e w' ⟨rfl, q, os, rfl⟩)
  go_ret
  refine ⟨rfl, ?_⟩
  rw [← hW0]
  exact hB0.trans (below_grown_sl w.heap.size W0 q os (by omega))
end Go.Proofs.Ytkackejipgabfaa.Char

/- The document's own store in memory. -/
namespace Go.Proofs.Ytkackejipgabfaa.Char
open Go.RowKit Go.Lib

/-- a node's version, and the values of its record's slices -/
abbrev OnV := Int × VeV
def toOn (x : OnV) : On := ⟨x.1, toVe x.2⟩
def onC (x : OnV) : List Value := .int .i64 x.1 :: veC x.2
def onsC (xs : List OnV) : List Value := xs.flatMap onC
theorem onsC_len (xs : List OnV) : (onsC xs).length = xs.length * 9 := by
  induction xs with
  | nil => rfl
  | cons x r ih =>
    show (onC x ++ onsC r).length = _
    rw [List.length_append, ih, List.length_cons]
    show 9 + _ = _
    omega
theorem onsC_snoc (xs : List OnV) (x : OnV) : onsC (xs ++ [x]) = onsC xs ++ onC x := by simp [onsC]
theorem onsC_at : ∀ (xs : List OnV) (k i : Nat) (h : k < xs.length) (_ : i < 9), (onsC xs)[k * 9 + i]? = (onC xs[k])[i]?
  | [], k, _, h, _ => by simp at h
  | x :: r, 0, i, _, hi => by
    show (onC x ++ onsC r)[0 * 9 + i]? = _
    rw [show 0 * 9 + i = i by omega, List.getElem?_append_left (by show i < 9; exact hi)]
    rfl
  | x :: r, k + 1, i, h, hi => by
    have ih := onsC_at r k i (by simpa using h) hi
    show (onC x ++ onsC r)[(k + 1) * 9 + i]? = _
    rw [List.getElem?_append_right (by show 9 ≤ _; omega), show (k + 1) * 9 + i - (onC x).length = k * 9 + i by show (k + 1) * 9 + i - 9 = _; omega, ih]
    rfl
/-- blocks of which O does not hold stand as they stood -/
def Only (B : Nat) (O : Nat → Prop) (w w' : World) : Prop := Below B w w' ∧ ∀ k, k < w.heap.size → ¬ O k → w'.heap[k]? = w.heap[k]?
theorem Only.refl (B : Nat) (O : Nat → Prop) (w : World) : Only B O w w := ⟨Below.refl _ _, fun _ _ _ => rfl⟩
theorem Only.trans {B : Nat} {O O' : Nat → Prop} {a b c : World} (h : Only B O a b) (k : Only B O' b c) (hO : ∀ i, i < a.heap.size → O' i → O i) : Only B O a c :=
  ⟨h.1.trans k.1, fun i hi hn => (k.2 i (Nat.lt_of_lt_of_le hi h.1.size) (fun ho => hn (hO i hi ho))).trans (h.2 i hi hn)⟩
theorem Only.of {B : Nat} {O : Nat → Prop} {w w' : World} (h : Below w.heap.size w w') (hB : B ≤ w.heap.size) : Only B O w w' := ⟨h.mono hB, fun k hk _ => h.block k hk⟩
theorem Only.weak {B : Nat} {O O' : Nat → Prop} {w w' : World} (h : Only B O w w') (hO : ∀ i, i < w.heap.size → O i → O' i) : Only B O' w w' := ⟨h.1, fun k hk hn => h.2 k hk fun ho => hn (hO k hk ho)⟩
/-- a row of versions of one's own -/
def OwnsOn (B : Nat) (w : World) (F : Nat → Prop) (v : Value) (xs : List OnV) : Prop := w.ownsRow B 150 9 v xs.length (onsC xs) ∧ ∀ x, x ∈ xs → RcOn w F x.2.2
theorem OwnsOn.nil (B : Nat) (w : World) (F : Nat → Prop) : OwnsOn B w F (.slice none 0 0) [] := ⟨World.ownsRow_nil _ _ _ _, fun _ h => by cases h⟩
theorem OwnsOn.move {B : Nat} {w w' : World} {F F' : Nat → Prop} {v : Value} {xs : List OnV} (h : OwnsOn B w F v xs) (hr : ∀ g, v.ownBlock = some g → w'.heap[g]? = w.heap[g]?) (hm : ∀ b, b < w.heap.size → F b → F' b ∧ w'.heap[b]? = w.heap[b]?) : OwnsOn B w' F' v xs := by
  obtain ⟨⟨h1, h2⟩, h3⟩ := h
  refine ⟨⟨h1, ?_⟩, fun x hx => (h3 x hx).move hm⟩
  rcases h2 with h0 | ⟨g, cap, cur, e1, e2, hg, e3⟩
  · exact .inl h0
  · exact .inr ⟨g, cap, cur, e1, e2, (hr g (by rw [e1]; rfl)).trans hg, e3⟩
theorem OwnsOn.form {B : Nat} {w : World} {F : Nat → Prop} {v : Value} {xs : List OnV} (h : OwnsOn B w F v xs) : ∃ o j, v = .slice o xs.length j := by
  rcases h.1.2 with ⟨h0, h1⟩ | ⟨g, cap, cur, e1, _⟩
  · exact ⟨none, 0, by rw [h0, ← h1]⟩
  · exact ⟨_, _, e1⟩
theorem OwnsOn.blk {B : Nat} {w : World} {F : Nat → Prop} {v : Value} {xs : List OnV} (h : OwnsOn B w F v xs) {g : Nat} (hg : v.ownBlock = some g) : B ≤ g ∧ g < w.heap.size ∧ ∃ cur, w.heap[g]? = some (.cells cur 150 (0, 0)) := by
  rcases h.1.2 with ⟨h0, _⟩ | ⟨g', cap, cur, e1, e2, hg', _⟩
  · rw [h0] at hg; cases hg
  · rw [e1] at hg
    obtain rfl : g' = g := by simpa [Value.ownBlock] using hg
    exact ⟨e2, (Array.getElem?_eq_some_iff.1 hg').1, cur, hg'⟩
/-- the cells of the k-th -/
theorem OwnsOn.reads {B : Nat} {w : World} {F : Nat → Prop} {o : Option Addr} {i j : Nat} {xs : List OnV} (h : OwnsOn B w F (.slice o i j) xs) (k : Nat) (hk : k < xs.length) :
    ∃ g, o = some ⟨g, 0, none⟩ ∧ B ≤ g ∧ g < w.heap.size ∧ w.cell? ⟨g, k * 9, none⟩ = some (.int .i64 xs[k].1) ∧ w.cell? ⟨g, k * 9 + 1, none⟩ = some (.int .u64 (xs[k].2.1 : Int)) ∧ w.cell? ⟨g, k * 9 + 2, none⟩ = some (.int .i64 xs[k].2.2.1.kd) ∧
      w.cell? ⟨g, k * 9 + 3, none⟩ = some (.string (bs xs[k].2.2.1.nm)) ∧ w.cell? ⟨g, k * 9 + 4, none⟩ = some (.string (bs xs[k].2.2.1.tx)) ∧ w.cell? ⟨g, k * 9 + 5, none⟩ = some (.int .i64 xs[k].2.2.1.pa) ∧ w.cell? ⟨g, k * 9 + 6, none⟩ = some xs[k].2.2.2.1 ∧ w.cell? ⟨g, k * 9 + 7, none⟩ = some xs[k].2.2.2.2 ∧ w.cell? ⟨g, k * 9 + 8, none⟩ = some (.bool xs[k].2.2.1.gone) ∧ RcOn w F xs[k].2.2 := by
  have h0 := h.1
  have h9 := h.2
  obtain ⟨⟨_, h1 | ⟨g, cap, cur, e1, e2, hg, _⟩⟩, _⟩ := h
  · omega
  · simp only [Value.slice.injEq] at e1
    have hc := World.ownsRow.cells h0 (g := g) (by rw [e1.1]; rfl)
    have key : ∀ n, n < 9 → ∀ u, (onC xs[k])[n]? = some u → w.cell? ⟨g, k * 9 + n, none⟩ = some u := fun n hn u hu => by
      have := hc (k * 9 + n) u ((onsC_at xs k n hk hn).trans hu)
      rwa [Addr.add_lit, Nat.zero_add] at this
    exact ⟨g, e1.1, e2, (Array.getElem?_eq_some_iff.1 hg).1, key 0 (by omega) _ rfl, key 1 (by omega) _ rfl, key 2 (by omega) _ rfl, key 3 (by omega) _ rfl, key 4 (by omega) _ rfl, key 5 (by omega) _ rfl, key 6 (by omega) _ rfl, key 7 (by omega) _ rfl, key 8 (by omega) _ rfl, h9 _ (List.getElem_mem hk)⟩
theorem info_on : (Try.prog.info? 150).map (fun i => (i.zero, i.size, i.bytes)) = some (some (.agg #[.int .i64 0, .int .u64 0, .int .i64 0, .string ⟨#[]⟩, .string ⟨#[]⟩, .int .i64 0, .slice none 0 0, .slice none 0 0, .bool false]), 9, 120) := by kernel_rfl
/-- a store -/
structure RefS (B : Nat) (w : World) (b : Nat) (v : Value) (xs : List OnV) (gv lt : Nat) : Prop where
  cell : w.heap[b]? = some (.cells #[v, .int .i64 (gv : Int), .int .u64 (lt : Int)] 153 (0, 0))
  row : OwnsOn B w (fun g => g < B) v xs
  low : B ≤ b
theorem RefS.ne {B : Nat} {w : World} {b : Nat} {v : Value} {xs : List OnV} {gv lt : Nat} (h : RefS B w b v xs gv lt) : v.ownBlock ≠ some b := fun e => by
  obtain ⟨_, _, cur, hc⟩ := h.row.blk e
  rw [h.cell] at hc
  simp only [Option.some.injEq, Obj.cells.injEq] at hc
  exact absurd hc.2.1 (by decide)
theorem RefS.lt {B : Nat} {w : World} {b : Nat} {v : Value} {xs : List OnV} {gv lt : Nat} (h : RefS B w b v xs gv lt) : b < w.heap.size := (Array.getElem?_eq_some_iff.1 h.cell).1
theorem RefS.cells {B : Nat} {w : World} {b : Nat} {v : Value} {xs : List OnV} {gv lt : Nat} (h : RefS B w b v xs gv lt) :
    w.cell? ⟨b, 0, none⟩ = some v ∧ w.cell? ⟨b, 1, none⟩ = some (.int .i64 (gv : Int)) ∧ w.cell? ⟨b, 2, none⟩ = some (.int .u64 (lt : Int)) ∧ ∀ i, w.frozen? ⟨b, i, none⟩ = false :=
  ⟨by simp [World.cell?, h.cell], by simp [World.cell?, h.cell], by simp [World.cell?, h.cell], fun i => by simp [World.frozen?, h.cell]⟩
/-- the blocks that are its own -/
def ownB (b : Nat) (v : Value) (k : Nat) : Prop := k = b ∨ v.ownBlock = some k
theorem RefS.move {B : Nat} {w w' : World} {b : Nat} {v : Value} {xs : List OnV} {gv lt : Nat} (h : RefS B w b v xs gv lt) (ho : ∀ k, ownB b v k → w'.heap[k]? = w.heap[k]?) (hm : ∀ k, k < B → w'.heap[k]? = w.heap[k]?) : RefS B w' b v xs gv lt :=
  ⟨(ho b (.inl rfl)).trans h.cell, h.row.move (fun g hg => ho g (.inr hg)) (fun k _ hk => ⟨hk, hm k hk⟩), h.low⟩
theorem RefS.own {B : Nat} {w : World} {b : Nat} {v : Value} {xs : List OnV} {gv lt : Nat} (h : RefS B w b v xs gv lt) {k : Nat} (hk : ownB b v k) : B ≤ k ∧ k < w.heap.size := by
  rcases hk with rfl | hk
  · exact ⟨h.low, h.lt⟩
  · exact ⟨(h.row.blk hk).1, (h.row.blk hk).2.1⟩
theorem RefS.only {B : Nat} {w w' : World} {O : Nat → Prop} {b : Nat} {v : Value} {xs : List OnV} {gv lt : Nat} (h : RefS B w b v xs gv lt) (hw : Only B O w w') (hd : ∀ k, O k → ownB b v k → False) : RefS B w' b v xs gv lt :=
  h.move (fun k hk => hw.2 k (h.own hk).2 fun ho => hd k ho hk) fun k hk => hw.1.block k hk
theorem RefS.below {B : Nat} {w w' : World} {b : Nat} {v : Value} {xs : List OnV} {gv lt : Nat} (h : RefS B w b v xs gv lt) (hb : Below w.heap.size w w') : RefS B w' b v xs gv lt :=
  h.only (Only.of (O := fun _ => False) hb (Nat.le_trans h.low (Nat.le_of_lt h.lt))) fun _ hf _ => hf
end Go.Proofs.Ytkackejipgabfaa.Char

/- The walks of the document's own Fresh and New. -/
namespace Go.Proofs.Ytkackejipgabfaa.Char
open Go.RowKit Go.Lib

theorem heap_set_ne {w : World} {a : Addr} {u : Value} {k : Nat} (h : k ≠ a.block) : (w.setCell a u).heap[k]? = w.heap[k]? := Below.heap_setCell w a u k h
theorem heap_set_at {w : World} {b i : Nat} {cs : Array Value} {T : TypeId} {u : Value} (h : w.heap[b]? = some (.cells cs T (0, 0))) : (w.setCell ⟨b, i, none⟩ u).heap[b]? = some (.cells (cs.setIfInBounds i u) T (0, 0)) := by
  unfold World.setCell
  dsimp only
  rw [Array.getElem?_modify, if_pos rfl, h]
  rfl
set_option maxRecDepth 100000 in
set_option maxHeartbeats 4000000 in
theorem refFresh_any {B : Nat} {w : World} {b : Nat} {v : Value} {xs : List OnV} {gv lt : Nat} (h : RefS B w b v xs gv lt) (hg : gv ≤ 100000000) :
    Calls Try.prog 75 #[.pointer (some ⟨b, 0, none⟩)] w fun e w' => e = .returned (.int .i64 ((gv + 1 : Nat) : Int)) ∧ RefS B w' b v xs (gv + 1) lt ∧ Only B (ownB b v) w w' := by
  have H := Lib.hid h
  obtain ⟨c0, c1, c2, cf⟩ := h.cells
  have c3 := cf 1
  clear h cf
  go_enter Try.func75, Try.ntmps75
  go_wp2_with fail
  go_ret
  have h := H.out
  have hne : ∀ k, k ≠ b → (w.setCell ⟨b, 1, none⟩ (.int .i64 ((gv : Int) + 1))).heap[k]? = w.heap[k]? := fun k hk => heap_set_ne (a := ⟨b, 1, none⟩) hk
  have hb : Below B w (w.setCell ⟨b, 1, none⟩ (.int .i64 ((gv : Int) + 1))) := (Below.refl _ _).setCell (p := ⟨b, 1, none⟩) h.low _
  refine ⟨rfl, ⟨heap_set_at h.cell, h.row.move (fun g hg => hne g fun e => h.ne (by rw [← e]; exact hg)) (fun k hk hF => ⟨hF, hne k (by have := h.low; omega)⟩), h.low⟩, hb, fun k _ hn => hne k fun e => hn (.inl e)⟩
end Go.Proofs.Ytkackejipgabfaa.Char

/- One element more behind what a slice of one's own holds, of whatever elements. -/
namespace Go.Proofs.Ytkackejipgabfaa.Char
open Go.RowKit Go.Lib

theorem wpList_push {ops : Array Oper} {rest : List Oper} {o : Oper} {a : Act} {Q : Exit → Act → World → Prop} {B : Nat} {W : World} {v : Value} {n size bytes : Nat} {xs : List Value} {e st : TypeId} {z : Value}
    (hi : (Try.prog.info? e).map (fun i => (i.zero, i.size, i.bytes)) = some (some z, size, bytes)) (hst : Try.prog.underlying st = some (.slice e)) (hzs : z.cells.size = size) (hsz : 0 < size) (hby : bytes ≤ 1000)
    (hgd : o.guard = none) (s x : Operand) (ho : o.op = .call { callee := .builtin .append, args := #[s, x], argTypes := #[st, st] })
    (cs : List Value) (hcs : cs.length = size) (h1 : ∀ u ∈ cs, u.oneCell' = true) (hown : W.ownsRow B e size v n xs) (hs : a.eval s = v) (hx : a.eval x = .slice (some ⟨W.heap.size, 0, none⟩) 1 1) (hB : B ≤ W.heap.size) (hlen : n ≤ 1000000000)
    (h : ∀ v' w1, w1.ownsRow B e size v' (n + 1) (xs ++ cs) → Below B W w1 → (∀ k, k < W.heap.size → some k ≠ v.ownBlock → w1.heap[k]? = W.heap[k]?) → (∀ g, v'.ownBlock = some g → v.ownBlock = some g ∨ W.heap.size ≤ g) → wpList Try.prog ops Q rest (a.put o.dst v') w1) :
    wpList Try.prog ops Q (o :: rest) a (W.alloc (.cells cs.toArray e)) := by
  obtain ⟨i0, hi, hz0, hz1, hz2⟩ := info_parts hi
  refine wpList_append_own_at _ hgd s x st ho B e i0 z size bytes hst hi hz0 hz1 hz2 hzs hsz v n xs hs (World.ownsRow.alloc hown _) ⟨W.heap.size, 0, none⟩ 1 1 cs hx (by rw [hcs, Nat.one_mul]) ?_ h1 ?_ ?_ ?_ ?_
  · intro j u hj
    have hb := World.alloc_heap_new W (.cells cs.toArray e)
    rw [Addr.add_lit, Nat.zero_add]
    simp only [World.cell?, hb]
    simpa using hj
  · unfold maxLen; omega
  · have : (n + 1) * bytes ≤ (n + 1) * 1000 := Nat.mul_le_mul_left _ hby
    omega
  · simp; omega
  · intro v' w1 hown' hgrow _ hloc
    have hsz := hgrow.size
    rw [World.size_alloc] at hsz
    refine h v' w1 hown' (((Below.refl _ _).alloc hB _).grown hgrow (by simp; omega) (fun k hk => by
      rcases hown.2 with ⟨rfl, _⟩ | ⟨g, cap, cur, rfl, hg, _⟩
      · simp [Value.ownBlock] at hk
      · simp [Value.ownBlock] at hk; omega)) (fun k hk hne => ?_) (fun g hg => ?_)
    · rw [hgrow.block k (by simp; omega) (fun e => hne e)]
      exact Below.heap_alloc W _ k hk
    · rcases hloc with hl | hl
      · exact .inl (by rw [← hl]; exact hg)
      · rw [hl] at hg
        simp at hg
        exact .inr (by omega)
/-- the same as a step of a region that draws its order: the box stands in H already -/
theorem step_push {ops : Array Oper} {o : Oper} {a : Act} {K : Act → World → Prop} {Q : Exit → Act → World → Prop} {E : Prop} {B : Nat} {W : World} {v : Value} {n size bytes : Nat} {xs : List Value} {e st : TypeId} {z : Value}
    (hi : (Try.prog.info? e).map (fun i => (i.zero, i.size, i.bytes)) = some (some z, size, bytes)) (hst : Try.prog.underlying st = some (.slice e)) (hzs : z.cells.size = size) (hsz : 0 < size) (hby : bytes ≤ 1000)
    (hgd : o.guard = none) (s x : Operand) (ho : o.op = .call { callee := .builtin .append, args := #[s, x], argTypes := #[st, st] })
    (cs : List Value) (hcs : cs.length = size) (h1 : ∀ u ∈ cs, u.oneCell' = true) (H : Nat) (hH : W.heap[H]? = some (.cells cs.toArray e (0, 0))) (hown : W.ownsRow B e size v n xs) (hs : a.eval s = v) (hx : a.eval x = .slice (some ⟨H, 0, none⟩) 1 1) (hB : B ≤ W.heap.size) (hlen : n ≤ 1000000000)
    (h : ∀ g cap w1, w1.ownsRow B e size (.slice (some ⟨g, 0, none⟩) (n + 1) cap) (n + 1) (xs ++ cs) → Below B W w1 → (∀ k, k < W.heap.size → some k ≠ v.ownBlock → w1.heap[k]? = W.heap[k]?) → (v.ownBlock = some g ∨ W.heap.size ≤ g) → K (a.put o.dst (.slice (some ⟨g, 0, none⟩) (n + 1) cap)) w1) :
    if Region.wanted o (yielded ops a.tmps) = true then Oper.wp Try.prog o a W K Q else E := by
  obtain ⟨i0, hi, hz0, hz1, hz2⟩ := info_parts hi
  refine step_append_lies W hgd s x st ho B e i0 z size bytes hst hi hz0 hz1 hz2 hzs hsz v n xs hs hown ⟨H, 0, none⟩ 1 1 cs hx (by rw [hcs, Nat.one_mul]) ?_ h1 (by decide) ?_ ?_ hB W.heap.size rfl ?_
  · intro j u hj
    rw [Addr.add_lit, Nat.zero_add]
    simp only [World.cell?, hH]
    simpa using hj
  · unfold maxLen; omega
  · have : (n + 1) * bytes ≤ (n + 1) * 1000 := Nat.mul_le_mul_left _ hby
    omega
  · intro g cap w1 hown' hgrow hlie _
    refine h g cap w1 hown' ((Below.refl B W).grown hgrow hB (fun k hk => by
      rcases hown.2 with ⟨rfl, _⟩ | ⟨g, cap, cur, rfl, hg, _⟩
      · simp [Value.ownBlock] at hk
      · simp [Value.ownBlock] at hk; omega)) (fun k hk hne => hgrow.block k hk (fun e => hne e)) ?_
    rcases hlie with hl | hl
    · exact .inl hl
    · exact .inr (by omega)
end Go.Proofs.Ytkackejipgabfaa.Char

/- Versions in a slice of one's own: one more behind it. -/
namespace Go.Proofs.Ytkackejipgabfaa.Char
open Go.RowKit Go.Lib

def OwnsVe (B : Nat) (w : World) (v : Value) (xs : List VeV) : Prop := w.ownsRow B 108 8 v xs.length (vesC xs)
theorem OwnsVe.nil (B : Nat) (w : World) : OwnsVe B w (.slice none 0 0) [] := World.ownsRow_nil _ _ _ _
theorem OwnsVe.keep {B : Nat} {w w' : World} {v : Value} {xs : List VeV} (h : OwnsVe B w v xs) (hk : ∀ g, v.ownBlock = some g → w'.heap[g]? = w.heap[g]?) : OwnsVe B w' v xs := by
  obtain ⟨h1, h2⟩ := h
  refine ⟨h1, ?_⟩
  rcases h2 with h0 | ⟨g, cap, cur, e1, e2, hg, e3⟩
  · exact .inl h0
  · exact .inr ⟨g, cap, cur, e1, e2, (hk g (by rw [e1]; rfl)).trans hg, e3⟩
theorem OwnsVe.blk {B : Nat} {w : World} {v : Value} {xs : List VeV} (h : OwnsVe B w v xs) {g : Nat} (hg : v.ownBlock = some g) : B ≤ g ∧ g < w.heap.size := World.ownsRow.lt h g hg
theorem OwnsVe.form {B : Nat} {w : World} {v : Value} {xs : List VeV} (h : OwnsVe B w v xs) : ∃ o j, v = .slice o xs.length j := by
  rcases h.2 with ⟨h0, h1⟩ | ⟨g, cap, cur, e1, _⟩
  · exact ⟨none, 0, by rw [h0, ← h1]⟩
  · exact ⟨_, _, e1⟩
/-- as versions that can be read -/
theorem OwnsVe.on {B : Nat} {w : World} {F : Nat → Prop} {v : Value} {xs : List VeV} (h : OwnsVe B w v xs) (hF : ∀ g, v.ownBlock = some g → F g) (hr : ∀ x, x ∈ xs → RcOn w F x.2) : VsOn w F v xs := by
  refine ⟨?_, hr⟩
  have h0 := h
  rcases h.2 with ⟨h1, h2⟩ | ⟨g, cap, cur, e1, e2, hg, e3⟩
  · exact ⟨none, 0, 0, h1, h2.symm, .inl (List.eq_nil_of_length_eq_zero h2)⟩
  · refine ⟨_, _, _, e1, rfl, .inr ⟨g, 0, rfl, hF g (by rw [e1]; rfl), fun k hk => ?_⟩⟩
    have hc := World.ownsRow.cells h0 (g := g) (by rw [e1]; rfl)
    have key : ∀ n, n < 8 → ∀ u, (veC xs[k])[n]? = some u → w.cell? ⟨g, k * 8 + n, none⟩ = some u := fun n hn u hu => by
      have := hc (k * 8 + n) u ((vesC_at xs k n hk hn).trans hu)
      rwa [Addr.add_lit, Nat.zero_add] at this
    rw [Nat.zero_add]
    exact ⟨key 0 (by omega) _ rfl, key 1 (by omega) _ rfl, key 2 (by omega) _ rfl, key 3 (by omega) _ rfl, key 4 (by omega) _ rfl, key 5 (by omega) _ rfl, key 6 (by omega) _ rfl, key 7 (by omega) _ rfl⟩
theorem info_ve : (Try.prog.info? 108).map (fun i => (i.zero, i.size, i.bytes)) = some (some (.agg #[.int .u64 0, .int .i64 0, .string ⟨#[]⟩, .string ⟨#[]⟩, .int .i64 0, .slice none 0 0, .slice none 0 0, .bool false]), 8, 112) := by kernel_rfl
/-- one version more, behind what one's own slice holds -/
theorem wpList_pushVe {ops : Array Oper} {rest : List Oper} {o : Oper} {a : Act} {Q : Exit → Act → World → Prop} {B : Nat} {W : World} {v : Value} {xs : List VeV}
    (hgd : o.guard = none) (s x : Operand) (ho : o.op = .call { callee := .builtin .append, args := #[s, x], argTypes := #[109, 109] })
    (t : Nat) (r : Rc) (ok : Option Addr) (ik jk : Nat) (oa : Option Addr) (ia ja : Nat) (hown : OwnsVe B W v xs) (hs : a.eval s = v) (hx : a.eval x = .slice (some ⟨W.heap.size, 0, none⟩) 1 1) (hB : B ≤ W.heap.size) (hlen : xs.length ≤ 100000000)
    (h : ∀ v' w1, OwnsVe B w1 v' (xs ++ [(t, r, .slice ok ik jk, .slice oa ia ja)]) → Below B W w1 → (∀ k, k < W.heap.size → some k ≠ v.ownBlock → w1.heap[k]? = W.heap[k]?) → (∀ g, v'.ownBlock = some g → v.ownBlock = some g ∨ W.heap.size ≤ g) → wpList Try.prog ops Q rest (a.put o.dst v') w1) :
    wpList Try.prog ops Q (o :: rest) a (W.alloc (.cells #[.int .u64 (t : Int), .int .i64 r.kd, .string (bs r.nm), .string (bs r.tx), .int .i64 r.pa, .slice ok ik jk, .slice oa ia ja, .bool r.gone] 108)) := by
  refine wpList_push info_ve Try.underlying109 rfl (by decide) (by decide) hgd s x ho (veC (t, r, .slice ok ik jk, .slice oa ia ja)) rfl ?_ hown hs hx hB (by omega) fun v' w1 h1 h2 h3 h4 => ?_
  · intro u hu
    simp [veC, rcC] at hu
    rcases hu with rfl | rfl | rfl | rfl | rfl | rfl | rfl | rfl <;> rfl
  · refine h v' w1 ?_ h2 h3 h4
    unfold OwnsVe
    rw [List.length_append, vesC_snoc]
    exact h1
end Go.Proofs.Ytkackejipgabfaa.Char

/- The walks of made. -/
namespace Go.Proofs.Ytkackejipgabfaa.Char
open Go.RowKit Go.Lib

theorem eql_store_same (b : Nat) (w : World) : (binOp .eql 45 (.pointer (some ⟨b, 0, none⟩)) (.pointer (some ⟨b, 0, none⟩))).run Try.prog w = .ok (.bool true) w := by
  obtain ⟨j, hj⟩ := Option.isSome_iff_exists.1 (show (Try.prog.info? 112).isSome = true by kernel_rfl)
  exact run_eql_ptr_same w _ Try.underlying45 hj
theorem eql_store_none (b : Nat) (w : World) : (binOp .eql 45 (.pointer none) (.pointer (some ⟨b, 0, none⟩))).run Try.prog w = .ok (.bool false) w := by
  have h : ∀ d : Nat, (Op.equalIn (d + 1) 45 (.pointer none) (.pointer (some ⟨b, 0, none⟩))).run Try.prog w = .ok false w := fun d => by
    simp [Op.equalIn, run_underlying Try.underlying45]
  simp only [binOp]
  simp [Op.equal, Op.maxDepth, h 9999]
set_option maxRecDepth 100000 in
set_option maxHeartbeats 2000000 in
theorem made_yes (b : Nat) (w : World) (h : w.cell? ⟨b, 0, none⟩ = some (.pointer (some ⟨b, 0, none⟩))) :
    Calls Try.prog 54 #[.pointer (some ⟨b, 0, none⟩)] w fun e w' => e = .returned (.bool true) ∧ w' = w := by
  have he := eql_store_same b w
  go_enter Try.func54, Try.ntmps54
  go_wp2
  go_ret
  exact ⟨rfl, rfl⟩
set_option maxRecDepth 100000 in
set_option maxHeartbeats 2000000 in
theorem made_none (w : World) :
    Calls Try.prog 54 #[.pointer none] w fun e w' => e = .returned (.bool false) ∧ w' = w := by
  go_enter Try.func54, Try.ntmps54
  go_wp2_with fail
  go_ret
  exact ⟨rfl, rfl⟩
set_option maxRecDepth 100000 in
set_option maxHeartbeats 2000000 in
theorem made_zero (b : Nat) (w : World) (h : w.cell? ⟨b, 0, none⟩ = some (.pointer none)) :
    Calls Try.prog 54 #[.pointer (some ⟨b, 0, none⟩)] w fun e w' => e = .returned (.bool false) ∧ w' = w := by
  have he := eql_store_none b w
  go_enter Try.func54, Try.ntmps54
  go_wp2
  go_ret
  exact ⟨rfl, rfl⟩
end Go.Proofs.Ytkackejipgabfaa.Char

/- The program's store in memory: a map from numbers to rows of versions. -/
namespace Go.Proofs.Ytkackejipgabfaa.Char
open Go.RowKit Go.Lib

/-- a map's element, read as itself -/
def heldE (v : Value) : Option (DataW Value × List MemPlace) := some (.held v, [])
def nilV : Value := .slice none 0 0
def kI (id : Int) : Lit := .int .i64 id
theorem law_int : Maps.Keyed Try.prog 3 := Maps.int_keyed Try.underlying3
theorem key_int {id : Int} (hid : (Lit.int .i64 id).wf = true) : keyOf Try.prog 3 (.int .i64 id) = some (kI id) := by
  simp [keyOf, Try.underlying3, mapKey, hid, kI]
theorem kI_key (id : Int) : WideAt.IsKeyLit (kI id) := by unfold kI; simp [WideAt.IsKeyLit]
theorem kI_ne {i j : Int} (h : i ≠ j) : kI i ≠ kI j := fun e => h (by simpa [kI] using e)
/-- the blocks that the store may turn -/
def ownP (b mb : Nat) (V : Int → Value) (g : Nat) : Prop := g = b ∨ g = mb ∨ ∃ i, (V i).ownBlock = some g
structure PSt (Z : Nat → Prop) (B : Nat) (w : World) (b mb n : Nat) (D : DataW Value) (V : Int → Value) (X : Int → List VeV) (gv lt : Nat) : Prop where
  cell : w.heap[b]? = some (.cells #[.pointer (some ⟨b, 0, none⟩), .int .i64 (gv : Int), .int .u64 (lt : Int), .map (some mb)] 112 (0, 0))
  own : w.ownsMap Try.prog 3 heldE mb n D
  has : ∀ id, Maps.has D (kI id) = !(X id).isEmpty
  val : ∀ id, D.atKey (kI id) (.held nilV) = .held (V id)
  row : ∀ id, OwnsVe B w (V id) (X id)
  rcs : ∀ id x, x ∈ X id → RcOn w (fun g => Z g ∧ ¬ ownP b mb V g) x.2
  sm : ∀ id x, x ∈ X id → RcSm x.2.1
  ap : ∀ i j g, (V i).ownBlock = some g → (V j).ownBlock = some g → i = j
  zo : ∀ g, ownP b mb V g → Z g
  zB : ∀ g, Z g → B ≤ g ∧ g < w.heap.size
  ids : ∀ id, X id ≠ [] → 1 ≤ id ∧ id ≤ (gv : Int)
  ups : ∀ id, upX (X id)
section
variable {Z : Nat → Prop} {B : Nat} {w : World} {b mb n : Nat} {D : DataW Value} {V : Int → Value} {X : Int → List VeV} {gv lt : Nat}
theorem PSt.move (h : PSt Z B w b mb n D V X gv lt) {w' : World} (hz : ∀ g, Z g → w'.heap[g]? = w.heap[g]?) (hs : w.heap.size ≤ w'.heap.size) : PSt Z B w' b mb n D V X gv lt where
  cell := (hz b (h.zo b (.inl rfl))).trans h.cell
  own := by
    obtain ⟨es, clock, hb, F, q1, q2⟩ := h.own
    exact ⟨es, clock, (hz mb (h.zo mb (.inr (.inl rfl)))).trans hb, F, q1, q2⟩
  has := h.has
  val := h.val
  row := fun id => (h.row id).keep fun g hg => hz g (h.zo g (.inr (.inr ⟨id, hg⟩)))
  rcs := fun id x hx => (h.rcs id x hx).move fun g _ hF => ⟨hF, hz g hF.1⟩
  sm := h.sm
  ap := h.ap
  zo := h.zo
  zB := fun g hg => ⟨(h.zB g hg).1, Nat.lt_of_lt_of_le (h.zB g hg).2 hs⟩
  ids := h.ids
  ups := h.ups
theorem PSt.below (h : PSt Z B w b mb n D V X gv lt) {w' : World} (hb : Below w.heap.size w w') : PSt Z B w' b mb n D V X gv lt :=
  h.move (fun g hg => hb.block g (h.zB g hg).2) hb.size
theorem PSt.cells (h : PSt Z B w b mb n D V X gv lt) : w.cell? ⟨b, 0, none⟩ = some (.pointer (some ⟨b, 0, none⟩)) ∧ w.cell? ⟨b, 1, none⟩ = some (.int .i64 (gv : Int)) ∧ w.cell? ⟨b, 2, none⟩ = some (.int .u64 (lt : Int)) ∧ w.cell? ⟨b, 3, none⟩ = some (.map (some mb)) ∧ ∀ i, w.frozen? ⟨b, i, none⟩ = false :=
  ⟨by simp [World.cell?, h.cell], by simp [World.cell?, h.cell], by simp [World.cell?, h.cell], by simp [World.cell?, h.cell], fun i => by simp [World.frozen?, h.cell]⟩
theorem PSt.lt' (h : PSt Z B w b mb n D V X gv lt) : b < w.heap.size := (Array.getElem?_eq_some_iff.1 h.cell).1
theorem PSt.blk (h : PSt Z B w b mb n D V X gv lt) {id : Int} {g : Nat} (hg : (V id).ownBlock = some g) : ∃ cur, w.heap[g]? = some (.cells cur 108 (0, 0)) := by
  rcases (h.row id).2 with ⟨h1, _⟩ | ⟨g', cap, cur, e1, e2, hg', e3⟩
  · rw [h1] at hg; cases hg
  · rw [e1] at hg
    obtain rfl : g' = g := by simpa [Value.ownBlock] using hg
    exact ⟨cur, hg'⟩
theorem PSt.ne_b (h : PSt Z B w b mb n D V X gv lt) (id : Int) : (V id).ownBlock ≠ some b := fun e => by
  obtain ⟨cur, hc⟩ := h.blk e
  rw [h.cell] at hc
  simp only [Option.some.injEq, Obj.cells.injEq] at hc
  exact absurd hc.2.1 (by decide)
theorem PSt.ne_m (h : PSt Z B w b mb n D V X gv lt) (id : Int) : (V id).ownBlock ≠ some mb := fun e => by
  obtain ⟨cur, hc⟩ := h.blk e
  obtain ⟨es, clock, hb, _⟩ := h.own
  rw [hb] at hc
  cases hc
theorem PSt.b_ne_m (h : PSt Z B w b mb n D V X gv lt) : b ≠ mb := fun e => by
  obtain ⟨es, clock, hb, _⟩ := h.own
  rw [← e, h.cell] at hb
  cases hb
theorem zero_vs (w : World) : (zeroValue 109).run Try.prog w = .ok nilV w := Try.zeroValue109 w
/-- what the map tells of a node -/
theorem PSt.look (h : PSt Z B w b mb n D V X gv lt) {id : Int} (hid : (Lit.int .i64 id).wf = true) : (Instr.lookup 110 (.map (some mb)) (.int .i64 id) false).run Try.prog w = .ok (V id) w := by
  obtain ⟨v, ps, hr, hv⟩ := h.own.lookup law_int Try.underlying110 (zero_vs w) (show heldE nilV = some (.held nilV, []) from rfl) (key_int hid)
  rw [h.val id] at hv
  simp only [heldE, Option.some.injEq, Prod.mk.injEq, DataW.held.injEq] at hv
  rw [hr, hv.1]
theorem PSt.form (h : PSt Z B w b mb n D V X gv lt) (id : Int) : ∃ o j, V id = .slice o (X id).length j := (h.row id).form
/-- a node's versions, to be read -/
theorem PSt.on (h : PSt Z B w b mb n D V X gv lt) (id : Int) : VsOn w Z (V id) (X id) :=
  (h.row id).on (fun g hg => h.zo g (.inr (.inr ⟨id, hg⟩))) fun x hx => (h.rcs id x hx).move fun _ _ hF => ⟨hF.1, rfl⟩
/-- the numbers of the nodes that have a version -/
def idsX (gv : Nat) (X : Int → List VeV) : List Int := ((List.range' 1 gv).filter fun id : Nat => !(X (id : Int)).isEmpty).map Int.ofNat
theorem mem_idsX {x : Int} : x ∈ idsX gv X ↔ (1 ≤ x ∧ x ≤ (gv : Int)) ∧ X x ≠ [] := by
  unfold idsX
  rw [List.mem_map]
  constructor
  · rintro ⟨k, hk, rfl⟩
    obtain ⟨h1, h2⟩ := List.mem_filter.1 hk
    rw [List.mem_range'_1] at h1
    refine ⟨⟨by show (1 : Int) ≤ (k : Int); omega, by show (k : Int) ≤ gv; omega⟩, fun e => ?_⟩
    rw [show Int.ofNat k = (k : Int) from rfl] at e
    simp [e] at h2
  · rintro ⟨⟨h1, h2⟩, h3⟩
    obtain ⟨k, rfl⟩ := Int.eq_ofNat_of_zero_le (by omega : 0 ≤ x)
    refine ⟨k, List.mem_filter.2 ⟨by rw [List.mem_range'_1]; omega, ?_⟩, rfl⟩
    cases hX : X (k : Int) with
    | nil => exact absurd hX h3
    | cons a r => rfl
theorem idsX_up : (idsX gv X).Pairwise fun a b => a < b := by
  unfold idsX
  refine List.pairwise_map.2 (List.Pairwise.filter _ ?_)
  refine (List.pairwise_lt_range' (s := 1) (n := gv)).imp fun h => ?_
  exact Int.ofNat_lt.2 h
theorem idsX_nodup : (idsX gv X).Nodup := idsX_up.imp fun h => Int.ne_of_lt h
theorem idsX_len : (idsX gv X).length ≤ gv := by
  unfold idsX
  rw [List.length_map]
  exact Nat.le_trans (List.length_filter_le _ _) (by simp)
theorem PSt.keys (h : PSt Z B w b mb n D V X gv lt) {ss : List Int} (hp : ss.Perm (intKeys D)) : ss.mergeSort leI = idsX gv X := by
  obtain ⟨es, hD, hpw, _⟩ := h.own.entries law_int
  obtain ⟨es', hD', hko⟩ := h.own.keysOf
  obtain rfl : es = es' := by rw [hD] at hD'; simpa using hD'
  have h1 : (idsX gv X).Perm (intKeys D) := by
    subst hD
    refine perm_intKeys hpw (fun p hp => by obtain ⟨v, hv⟩ := hko p hp; obtain ⟨x, _, hx, _⟩ := Maps.keyOf_i64 Try.underlying3 hv; exact ⟨x, hx⟩) idsX_nodup fun x => ?_
    rw [mem_idsX, show (Lit.int .i64 x) = kI x from rfl, h.has x]
    constructor
    · rintro ⟨_, h2⟩
      cases hX : X x with
      | nil => exact absurd hX h2
      | cons a r => rfl
    · intro h2
      have h3 : X x ≠ [] := fun e => by rw [e] at h2; cases h2
      exact ⟨h.ids x h3, h3⟩
  rw [mergeSort_of_perm_i (hp.trans h1.symm)]
  exact List.mergeSort_of_pairwise (idsX_up.imp fun h => decide_eq_true (Int.le_of_lt h))
theorem PSt.size (h : PSt Z B w b mb n D V X gv lt) : Maps.size D ≤ gv := by
  have h1 : (idsX gv X).Perm (intKeys D) := by
    have := h.keys (List.Perm.refl _)
    rw [← this]
    exact List.mergeSort_perm _ _
  obtain ⟨es, hD, _⟩ := h.own.entries law_int
  have h2 := h1.length_eq
  have h3 : (intKeys D).length = Maps.size D := by rw [hD]; simp [intKeys, Maps.size]
  rw [← h3, ← h2]
  exact idsX_len
end
end Go.Proofs.Ytkackejipgabfaa.Char

/- A range over a function whose elements are known ahead: an own law over the library's steps. (The elder laws ask the body at any element whatever; here the body is asked only at the next one, and the iterator may ask of the world what the loop's invariant says.) -/
namespace Go.Proofs.Ytkackejipgabfaa.Char
open Go.RowKit

/-- what an iterator is to do: it hands over xs0, in this order, as long as the world is as 'St' says; of what lies between the call and m nothing may be turned -/
def SeqFix {α : Type} (F : Fence) (n : Nat) (P : Program) (g : Nat) (lb : Array Value) (encs : α → Array Value) (St : List α → World → Prop) (xs0 : List α) (w : World) : Prop :=
  ∀ (l : Nat) (J : Nat → List α → World → Prop) (W : World), Below w.heap.size w W → (∀ m pre W1, J m pre W1 → St pre W1) → (∀ W1, Below W.heap.size W W1 → J W1.heap.size [] W1) →
    (∀ m pre x W1, W.heap.size ≤ m → m ≤ W1.heap.size → J m pre W1 → (pre ++ [x]) <+: xs0 → YieldAt F (n - 1) P l (encs x) W1 fun e W' =>
      e = .returned (.bool true) ∧ J m (pre ++ [x]) W' ∧ m ≤ W'.heap.size ∧ ∀ k, W.heap.size ≤ k → k < m → W'.heap[k]? = W1.heap[k]?) →
    CallsIn F n P g (#[.func (.yield l) #[] #[]] ++ lb) W fun e W' => (∃ v, e = .returned v) ∧ ∃ m, W.heap.size ≤ m ∧ J m xs0 W'
/-- how a round's body is to end -/
def fixPost {α : Type} (B m : Nat) (I : Nat → List α → World → Prop) (xs : List α) (W : World) : Exit → Act → World → Prop
  | .normal, _, W' => I m xs W' ∧ m ≤ W'.heap.size ∧ ∀ k, B ≤ k → k < m → W'.heap[k]? = W.heap[k]?
  | _, _, _ => False
section
variable {F : Fence} {n : Nat} {P : Program}
theorem below_putObj {B : Nat} {A W : World} (h : Below B A W) {l : Nat} (hl : B ≤ l) (o : Obj) : Below B A (W.putObj l o) :=
  ⟨h.os, h.tape, h.output, by rw [World.putObj_size]; exact h.size, fun k hk => (World.putObj_heap_other (by omega)).trans (h.block k hk)⟩
theorem wpIn_rangeFunc_fix {α : Type} {g : Operand} {ps : Array Tmp} {assign body : Code} {Q : Exit → Act → World → Prop} {a : Act} {w : World}
    (hro : F.round = none) (h1 : 1 ≤ n) {gf : Nat} {lb : Array Value} (hg : a.eval g = .func (.func gf) #[] lb) (hFg : F.fn gf) (eg : ∀ args w, (callFunc gf args).run P w = .ok (.enter gf args) w)
    {encs : α → Array Value} {St : List α → World → Prop} {xs0 : List α} {w0 : World} (hseq : SeqFix F (n - 1) P gf lb encs St xs0 w0) (hb0 : Below w0.heap.size w0 w) (hps : ∀ x, (encs x).size = ps.size)
    (I : Nat → List α → World → Prop) (hI : ∀ m pre W l o o', I m pre W → w.heap.size ≤ l → W.heap[l]? = some o → o.isCells = false → o.isWalk = false → I m pre (W.putObj l o')) (hSt : ∀ m pre W, I m pre W → St pre W) (h0 : ∀ W, Below w.heap.size w W → I W.heap.size [] W) (a₁ : α → Act)
    (hassign : ∀ (l : Nat) (x : α) (W : World) (K : Act → World → Prop), K (a₁ x) W →
      assign.wpIn (F.inRound l) (n - 1 - 1) P (Exit.then K (fun _ _ _ => False)) { tmps := (ps.zip (encs x)).foldl (fun t (p, v) => t.setIfInBounds p v) a.tmps, defers := [] } W)
    (hbody : ∀ (l m : Nat) (pre : List α) (x : α) (W : World), w.heap.size + 2 ≤ m → m ≤ W.heap.size → I m pre W → (pre ++ [x]) <+: xs0 → body.wpIn (F.inRound l) (n - 1 - 1) P (fixPost w.heap.size m I (pre ++ [x]) W) (a₁ x) W)
    (hdone : ∀ (D m : Nat) (W : World), w.heap.size ≤ D → I m xs0 W → W.heap[D]? = some (.deferred (some [])) → Q .normal { a with defers := { target := .collected D, args := #[] } :: a.defers } W) :
    (Code.rangeFunc g ps assign body).wpIn F n P Q a w := by
  refine wpIn_rangeFunc fun fn hfn => ?_
  rw [hro]
  -- the loop's two blocks: its deferred calls at w.heap.size, its record behind
  obtain ⟨L, hL⟩ : ∃ L : LoopState → Loop, L = fun st => { state := st, pending := none, fn, tmps := a.tmps, params := ps, assign, body, defers := w.heap.size } := ⟨_, rfl⟩
  obtain ⟨Wc, hWc⟩ : ∃ Wc, Wc = (w.alloc (.deferred (some []))).alloc (.loop (L .ready)) := ⟨_, rfl⟩
  have sWc : Wc.heap.size = w.heap.size + 2 := by rw [hWc]; simp
  have bWc : Below w.heap.size w Wc := by rw [hWc]; exact ((Below.refl _ w).alloc (Nat.le_refl _) _).alloc (by simp) _
  have r1 : Wc.heap[w.heap.size + 1]? = some (.loop (L .ready)) := by
    rw [hWc]; have := World.alloc_heap_new (w.alloc (.deferred (some []))) (.loop (L .ready)); rwa [World.size_alloc] at this
  have r0 : Wc.heap[w.heap.size]? = some (.deferred (some [])) := by
    rw [hWc]; exact (Below.heap_alloc _ _ _ (by simp)).trans (World.alloc_heap_new w _)
  refine ⟨w.heap.size + 1, [{ target := .collected w.heap.size, args := #[] }], Wc, { target := .fn (.func gf) lb, args := #[.func (.yield (w.heap.size + 1)) #[] #[]] }, Wc, gf, #[.func (.yield (w.heap.size + 1)) #[] #[]] ++ lb, Wc, ?_, ?_, ?_, ?_, fun _ => h1, ?_⟩
  · rw [hWc, hL]; exact run_enterLoop_outer _ _ _ _ _
  · simp only [resolve, hg]
    simp [go_sem]
  · intro f' hf'
    simp [Target.leads] at hf'
    subst hf'
    exact hFg
  · simp [invoke, go_sem, eg]
  · refine (hseq (w.heap.size + 1) (fun m pre W => I m pre W ∧ W.heap[w.heap.size + 1]? = some (.loop (L .ready)) ∧ W.heap[w.heap.size]? = some (.deferred (some []))) Wc (hb0.trans (bWc.mono hb0.size)) (fun m pre W1 h => hSt m pre W1 h.1) (fun W1 hb => ?_) ?_).mono ?_
    · exact ⟨h0 W1 (bWc.trans (hb.mono (by omega))), (hb.block _ (by omega)).trans r1, (hb.block _ (by omega)).trans r0⟩
    · rintro m pre x W hm hmW ⟨hi, hl, hk⟩ hpx
      have hlt : w.heap.size + 1 < W.heap.size := (Array.getElem?_eq_some_iff.1 hl).1
      have hy := run_yield (P := P) (args := encs x) hl (by rw [hL]; exact hps x)
      rw [hL] at hy
      refine ⟨fn, _, assign, body, hy, roundIn_of_wpIn hfn (hassign _ x W _ ⟨_, run_beginRound hl (by rw [hL]), ?_⟩)⟩
      obtain ⟨W2, hW2⟩ : ∃ W2, W2 = W.putObj (w.heap.size + 1) (.loop { L .ready with state := .busy }) := ⟨_, rfl⟩
      rw [← hW2]
      have q1 : W2.heap[w.heap.size + 1]? = some (.loop { L .ready with state := .busy }) := by rw [hW2]; exact World.putObj_heap_same hlt
      have q0 : W2.heap[w.heap.size]? = some (.deferred (some [])) := by rw [hW2]; exact (World.putObj_heap_other (by omega)).trans hk
      have i2 : I m pre W2 := by rw [hW2]; exact hI m pre W _ _ _ hi (by omega) hl rfl rfl
      have s2 : W2.heap.size = W.heap.size := by rw [hW2, World.putObj_size]
      refine wpIn_mono (hbody _ m pre x W2 (by omega) (by omega) i2 hpx) ?_
      rintro e a3 W3 hp
      match e, hp with
      | .normal, ⟨i3, m3, f3⟩ =>
        have t1 := (f3 _ (by omega) (by omega)).trans q1
        have t0 := (f3 _ (by omega) (by omega)).trans q0
        have hr := run_endRound (P := P) none t1
        refine ⟨_, _, hr, rfl, ⟨hI m _ W3 _ _ _ i3 (by omega) t1 rfl rfl, ?_, ?_⟩, ?_, fun k k1 k2 => ?_⟩
        · rw [World.putObj_heap_same (Array.getElem?_eq_some_iff.1 t1).1, hL]; rfl
        · exact (World.putObj_heap_other (by omega)).trans t0
        · rw [World.putObj_size]; exact m3
        · rw [World.putObj_heap_other (by omega), f3 k (by omega) k2, hW2, World.putObj_heap_other (by omega)]
    · rintro e W2 ⟨⟨v, rfl⟩, m, hm, hi, hl, hk⟩
      have he := run_endLoop (P := P) hl (by rw [hL]; simp)
      rw [hL] at he
      exact ⟨none, _, he, hdone w.heap.size m _ (Nat.le_refl _) (hI m _ W2 _ _ _ hi (by omega) hl rfl rfl) ((World.putObj_heap_other (by omega)).trans hk)⟩
end
end Go.Proofs.Ytkackejipgabfaa.Char

/- The walks of nodes and its iterator. -/
namespace Go.Proofs.Ytkackejipgabfaa.Char
open Go.RowKit Go.Lib Go.Sort Go.Maps
attribute [local go_sem] Oper.semAt_some

/-- what the loop's rounds leave of the world, as the iterator wants it -/
structure StN (b mb Bt : Nat) (xs0 : List (Int × Value)) (pre : List (Int × Value)) (W : World) : Prop where
  box : W.cell? ⟨Bt, 0, none⟩ = some (.pointer (some ⟨b, 0, none⟩))
  fld : W.cell? ⟨b, 3, none⟩ = some (.map (some mb))
  map : ∃ n D, W.ownsMap Try.prog 3 heldE mb n D ∧ (∀ x, (pre ++ [x]) <+: xs0 → D.atKey (kI x.1) (.held nilV) = .held x.2) ∧ (pre = [] → Maps.size D ≤ 100000000 ∧ ∀ ss : List Int, ss.Perm (intKeys D) → ss.mergeSort leI = xs0.map (·.1))
def encN (x : Int × Value) : Array Value := #[.int .i64 x.1, x.2]

theorem look_at {W : World} {mb n : Nat} {D : DataW Value} (h : W.ownsMap Try.prog 3 heldE mb n D) {id : Int} {v : Value} (hv0 : D.atKey (kI id) (.held nilV) = .held v) (hid : (Lit.int .i64 id).wf = true) : (Instr.lookup 110 (.map (some mb)) (.int .i64 id) false).run Try.prog W = .ok v W := by
  obtain ⟨v', ps, hr, hv⟩ := h.lookup law_int Try.underlying110 (zero_vs W) (show heldE nilV = some (.held nilV, []) from rfl) (key_int hid)
  rw [hv0] at hv
  simp only [heldE, Option.some.injEq, Prod.mk.injEq, DataW.held.injEq] at hv
  rw [hr, hv.1]
theorem row_ints {w : World} {B n : Nat} {v : Value} {zs : List Int} (h : w.ownsRow B 3 1 v n (zs.map encZ)) : ∃ o j, v = .slice o n j ∧ IntsOn w (fun g => B ≤ g) (.slice o n j) zs := by
  have hl := h.1
  rw [List.length_map, Nat.mul_one] at hl
  have hc := fun g => World.ownsRow.cells h (g := g)
  rcases h.2 with ⟨rfl, rfl⟩ | ⟨g, cap, cur, rfl, hg, _⟩
  · have : zs = [] := List.eq_nil_of_length_eq_zero hl
    subst this
    exact ⟨none, 0, rfl, IntsOn.nil _ _ _ _⟩
  · refine ⟨_, _, rfl, _, _, _, rfl, hl.symm, .inr ⟨g, 0, rfl, hg, fun k hk => ?_⟩⟩
    have := hc g rfl k (.int .i64 (zs.getD k 0)) (by rw [List.getElem?_map, List.getElem?_eq_getElem hk, List.getD_eq_getElem?_getD, List.getElem?_eq_getElem hk]; rfl)
    rwa [Addr.add_lit] at this
theorem sortsA9 (m : Nat) : AnyZI.SortsIn Try.prog sortedA_ren Fence.wide m :=
  ⟨fun blk off cap ss W hH hblk hsz => callsIn_wide.2 (AnyM.slices_Sort_int sortA blk off cap ss W hH hblk hsz),
   fun p cap W => callsIn_wide.2 (AnyM.slices_Sort_int_none sortA p cap W)⟩
set_option maxRecDepth 100000 in
set_option maxHeartbeats 4000000 in
/-- nodes: the store's pointer is boxed; the function value holds the box -/
theorem nodes_in (F : Fence) (n : Nat) (hf : F.fn 55) (hro : F.round = none) (b : Nat) (w : World) :
    CallsIn F n Try.prog 55 #[.pointer (some ⟨b, 0, none⟩)] w fun e w' => e = .returned (.func (.func 87) #[] #[.pointer (some ⟨w.heap.size, 0, none⟩)]) ∧ w' = w.alloc (.cells #[.pointer (some ⟨b, 0, none⟩)] 45) := by
  have hmf : ∀ (fn : Fn) (first cap : Array Value) (w : World), (Instr.makeFunc fn first cap).run Try.prog w = .ok (.func fn first cap) w := fun _ _ _ _ => rfl
  refine callsIn_of_wp Try.func55 rfl hf ?_ hro
  simp only [Try.ntmps55, List.size_toArray, List.length_cons, List.length_nil, Nat.reduceAdd, Nat.reduceSub, Array.replicate_succ, Array.replicate_zero, List.push_toArray, List.append_toArray, List.nil_append, List.cons_append]
  gi_wp2
  go_ret
  exact ⟨rfl, rfl⟩
set_option maxRecDepth 100000 in
set_option maxHeartbeats 4000000 in
/-- the iterator of nodes: the numbers in order, each with its row -/
theorem nodes1_fix (n : Nat) (hn : 8 ≤ n) (b mb Bt : Nat) (xs0 : List (Int × Value)) (hxl : xs0.length ≤ 100000000) (hwf : ∀ x, x ∈ xs0 → (Lit.int .i64 x.1).wf = true) (w : World) :
    SeqFix Fence.wide n Try.prog 87 #[.pointer (some ⟨Bt, 0, none⟩)] encN (StN b mb Bt xs0) xs0 w := by
  intro l J W hW hSt h0 hY
  have hdd : ∀ k : Nat, (Fence.wide.depth.isSome = true → 1 ≤ k) := fun k h => by cases h
  have hs0 := hSt _ _ _ (h0 W (Below.refl _ _))
  obtain ⟨nm, D, hown, hat0, hkey0⟩ := hs0.map
  obtain ⟨hsz, hkeys⟩ := hkey0 rfl
  have hbl := hown.lt
  have hbx := hs0.box
  have hfl := hs0.fld
  -- maps.Keys and slices.Sorted
  have hseq : SeqGives Fence.wide (n - 1 - 1 - 1 - 1) Try.prog 114 #[.pointer (some ⟨W.heap.size, 0, none⟩)] encZ (fun ss => ss.Perm (intKeys D)) (Maps.size D) (W.alloc (.cells #[.map (some mb)] 110)) :=
    AnyZI.keys_gives (ρ := keysA_ren) { keysA with } Fence.wide _ trivial rfl (by omega) W.heap.size mb nm D _ (by simp) (by simp) (by
      obtain ⟨es, clock, hb, Ft, hs, hD⟩ := hown
      exact ⟨es, clock, (Below.heap_alloc _ _ mb hbl).trans hb, Ft, hs, hD⟩)
  have cK : ∀ mb W, CallsIn Fence.wide (n - 1) Try.prog 88 #[.map mb] W fun e w' => e = .returned (.func (.func 114) #[] #[.pointer (some ⟨W.heap.size, 0, none⟩)]) ∧ w' = W.alloc (.cells #[.map mb] 110) := fun mb W => AnyZI.keys_in keysA Fence.wide (n - 1) trivial rfl mb W
  have cS := AnyZI.sorted_in sortedA Fence.wide (n - 1) trivial trivial trivial trivial rfl (by omega) (sortsA9 _) (enters_of Try.func84 (by kernel_rfl) rfl) 114 #[.pointer (some ⟨W.heap.size, 0, none⟩)] trivial (enters_of Try.func114 (by kernel_rfl) rfl) _ _ (by unfold maxLen; omega) (by omega) _ hseq
  change CallsIn _ _ Try.prog 50 _ _ _ at cS
  have hfK : Fence.wide.fn 88 := trivial
  have hfS : Fence.wide.fn 50 := trivial
  clear hseq hown hat0 hkey0 hsz hs0
  refine callsIn_of_wp Try.func87 rfl trivial ?_ rfl
  simp only [Try.ntmps87, List.size_toArray, List.length_cons, List.length_nil, Nat.reduceAdd, Nat.reduceSub, Array.replicate_succ, Array.replicate_zero, List.push_toArray, List.append_toArray, List.nil_append, List.cons_append]
  gi_wp2_with (first
    | ((try refine ⟨hdd _, ?_⟩); gi_at_call 88; refine (cK _ _).mono ?_; rintro e w' ⟨rfl, rfl⟩)
    | ((try refine ⟨hdd _, ?_⟩); gi_at_call 50; refine cS.mono ?_; rintro e w1 ⟨v, ss, rfl, hS, hrow, hnil, hb⟩; obtain ⟨o, j, rfl, hon⟩ := row_ints hrow))
  have hks := hkeys ss hS
  have hlen : ss.length = xs0.length := by
    have := congrArg List.length hks
    rwa [List.length_mergeSort, List.length_map] at this
  have hB1 : Below W.heap.size W w1 := ((Below.refl _ W).alloc (Nat.le_refl _) _).trans (hb.mono (by simp))
  have hJ1 := h0 w1 hB1
  have HON : Hid (IntsOn w1 (fun g => W.heap.size ≤ g) (.slice o ss.length j) (xs0.map (·.1))) := Lib.hid (by
    have : IntsOn w1 (fun g => (W.alloc (.cells #[.map (some mb)] 110)).heap.size ≤ g) (.slice o ss.length j) (ss.mergeSort leI) := hon
    rw [hks] at this
    exact this.move fun g _ hF => ⟨by simp at hF; omega, rfl⟩)
  have HJ1 := Lib.hid hJ1
  have HSt := Lib.hid hSt
  have HY := Lib.hid hY
  have hWw := hB1.size
  clear hrow hon hb hS hks hkeys hnil hJ1 hSt hY h0 cK cS hbx hfl hbl
  rw [hlen] at HON ⊢
  gi_loopw [12] (fun v wr => ∃ k : Nat, v = .int .i64 (k : Int) ∧ k ≤ xs0.length ∧ w1.heap.size ≤ wr.heap.size ∧ Hid (J w1.heap.size (xs0.take k) wr) ∧ Hid (∀ q, W.heap.size ≤ q → q < w1.heap.size → wr.heap[q]? = w1.heap[q]?)) (fun v _ => xs0.length - (RowKit.intOf v).toNat)
  case atStart => exact ⟨0, rfl, Nat.zero_le _, Nat.le_refl _, Lib.hid (by rw [List.take_zero]; exact HJ1.out), Lib.hid fun _ _ _ => rfl⟩
  case round =>
    obtain ⟨k, rfl, hk, hwr, HJ, HF⟩ := hrel
    by_cases hlt : k < xs0.length
    · obtain ⟨g, off, rfl, hg, r0⟩ := HON.out.reads k (by simpa using hlt)
      have r1 := (World.cell?_of_block (w := w1) (w' := wr) (a := ⟨g, off + k, none⟩) (HF.out g hg (cell_lt r0))).trans r0
      have hxm := hwf _ (List.getElem_mem hlt)
      have hpx : (xs0.take k ++ [xs0[k]]) <+: xs0 := by rw [← List.take_succ_eq_append_getElem hlt]; exact List.take_prefix _ _
      have hst := HSt.out _ _ _ HJ.out
      obtain ⟨nm, D2, hown2, hat2, _⟩ := hst.map
      have hlk := look_at hown2 (hat2 _ hpx) hxm
      have hbx := hst.box
      have hfl := hst.fld
      obtain ⟨fn, tmps, assign, body, hy, hR⟩ := HY.out w1.heap.size _ _ wr hWw hwr HJ.out hpx
      rw [List.getElem_map] at r1
      have HE : Hid (xs0.take (k + 1) = xs0.take k ++ [xs0[k]]) := Lib.hid (List.take_succ_eq_append_getElem hlt)
      unfold encN at hy
      generalize xs0[k] = x at *
      obtain ⟨xi, xv⟩ := x
      have hR2 := hR.mono (R' := fun e W' => e = .returned (.bool true) ∧ Hid (J w1.heap.size (xs0.take (k + 1)) W') ∧ w1.heap.size ≤ W'.heap.size ∧ Hid (∀ q, W.heap.size ≤ q → q < w1.heap.size → W'.heap[q]? = w1.heap[q]?))
        (fun e W' h => ⟨h.1, Lib.hid (by rw [HE.out]; exact h.2.1), h.2.2.1, Lib.hid fun q q1 q2 => (h.2.2.2 q q1 q2).trans (HF.out q q1 q2)⟩)
      clear hR hown2 hat2 hst hpx HJ HF r0 HE
      dsimp only at *
      gi_wp2_with ((try refine ⟨hdd _, ?_⟩); refine hR2.mono ?_; clear hR2; rintro e W2 ⟨rfl, HJ2, hw2, HF2⟩)
      refine ⟨⟨k + 1, by rw [Int.natCast_add]; rfl, by omega, hw2, HJ2, HF2⟩, ?_⟩
      simp [RowKit.intOf]
      omega
    · have hke : k = xs0.length := by omega
      have HJ2 : Hid (J w1.heap.size xs0 wr) := Lib.hid (by have := HJ.out; rwa [hke, List.take_length] at this)
      clear HJ HF
      gi_wp2
      go_end0
      exact ⟨⟨_, rfl⟩, w1.heap.size, hWw, HJ2.out⟩
end Go.Proofs.Ytkackejipgabfaa.Char
